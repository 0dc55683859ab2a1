package report_test

import (
	"fmt"
	"math/big"
	"regexp"
	"strconv"
	"strings"

	"cordon/api"
)

// A second way of all: texts are told by what fmt prints, and read by a pattern of the whole, and numbers of any size.

const (
	modelText  = `'(?:[^'\\\x00-\x1f]|''|\\[01][0-9a-f]|\\5c)*'`
	modelValue = `(?:null|true|false|0|-?[1-9][0-9]*|` + modelText + `)`
)

var (
	modelRow  = regexp.MustCompile(`\A(?:` + modelValue + `(?:, ` + modelValue + `)*)?\z`)
	modelOne  = regexp.MustCompile(modelValue)
	modelCode = regexp.MustCompile(`''|\\[0-9a-f]{2}`)
)

func modelTold(v api.Value) string {
	switch v {
	case null:
		return "null"
	case yes:
		return "true"
	case no:
		return "false"
	case num(v.N):
		return fmt.Sprintf("%d", v.N)
	}
	s := strings.ReplaceAll(v.S, `\`, `\5c`) // ahead of the others, which bring more of it
	s = strings.ReplaceAll(s, "'", "''")
	for c := range 32 {
		s = strings.ReplaceAll(s, string([]byte{byte(c)}), fmt.Sprintf(`\%02x`, c))
	}
	return "'" + s + "'"
}

func modelRowTold(r []api.Value) string {
	out := ""
	for i, v := range r {
		if i > 0 {
			out += ", "
		}
		out += modelTold(v)
	}
	return out
}

func modelValueOf(s string) (api.Value, api.Errno) {
	switch {
	case s == "null":
		return null, api.OK
	case s == "true":
		return yes, api.OK
	case s == "false":
		return no, api.OK
	case s[0] == '\'':
		meant := modelCode.ReplaceAllStringFunc(s[1:len(s)-1], func(code string) string {
			if code == "''" {
				return "'"
			}
			n, _ := strconv.ParseInt(code[1:], 16, 64)
			return string([]byte{byte(n)})
		})
		if len(meant) > api.MaxText {
			return null, api.ErrMany
		}
		return text(meant), api.OK
	}
	n, ok := new(big.Int).SetString(s, 10)
	if !ok || !n.IsInt64() {
		return null, api.ErrForm
	}
	return num(int(n.Int64())), api.OK
}

func modelRead(s string) ([]api.Value, api.Errno) {
	if !modelRow.MatchString(s) {
		return nil, api.ErrForm
	}
	var out []api.Value
	much := false
	for _, one := range modelOne.FindAllString(s, -1) {
		v, err := modelValueOf(one)
		if err == api.ErrForm {
			return nil, err
		}
		much = much || err == api.ErrMany
		out = append(out, v)
	}
	if much || len(out) > api.MaxCols {
		return nil, api.ErrMany
	}
	return out, api.OK
}
