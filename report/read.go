package report

import (
	"slices"
	"strconv"
	"strings"

	"cordon/api"
	"cordon/value"
)

const (
	quote       = "'"
	escape      = `\`
	escapedSize = len(escape) + 2
	firstPlain  = ' ' // the bytes below it are told by digits
)

// Read reads a row. The form is looked at up to the end ahead of all limits, since what is wrong with it is told first, wherever it stands.
func Read(s string) ([]api.Value, api.Errno) {
	row, ok := valuesOf(s)
	switch {
	case !ok:
		return nil, api.ErrForm
	case len(row) > api.MaxCols || slices.ContainsFunc(row, tooLong):
		return nil, api.ErrMany
	}
	return row, api.OK
}

func tooLong(v api.Value) bool { return value.Right(v) == api.ErrMany }

// valuesOf are the values that s tells, however many, and however long. The empty text tells none, as it is the text of a row of none.
func valuesOf(s string) ([]api.Value, bool) {
	if s == "" {
		return nil, true
	}
	var out []api.Value
	for {
		v, rest, ok := take(s)
		if !ok {
			return nil, false
		}
		out = append(out, v)
		if rest == "" {
			return out, true
		}
		if s, ok = strings.CutPrefix(rest, between); !ok {
			return nil, false
		}
	}
}

// take is the value whose text stands at the front of s, and what stands behind it.
func take(s string) (v api.Value, rest string, ok bool) {
	if strings.HasPrefix(s, quote) {
		return takeText(s[len(quote):])
	}
	size := strings.Index(s, between)
	if size < 0 {
		size = len(s)
	}
	v, ok = plain(s[:size])
	return v, s[size:], ok
}

// plain is the value, other than a text, that a word tells. It is told again, as most numbers can be written in ways that are not theirs.
func plain(word string) (api.Value, bool) {
	for _, v := range [...]api.Value{value.Null(), value.Bool(false), value.Bool(true)} {
		if Value(v) == word {
			return v, true
		}
	}
	n, err := strconv.Atoi(word)
	v := value.Int(n)
	return v, err == nil && Value(v) == word
}

// takeText is the text that s begins with, behind its first quote, and what stands behind its last one.
func takeText(s string) (v api.Value, rest string, ok bool) {
	var meant strings.Builder
	c, size := takeByte(s)
	for size > 0 {
		meant.WriteByte(c)
		s = s[size:]
		c, size = takeByte(s)
	}
	rest, ok = strings.CutPrefix(s, quote)
	return value.Text(meant.String()), rest, ok
}

// takeByte is the byte of a text that s begins with, and how many bytes tell it there: 0, if it begins with none.
func takeByte(s string) (c byte, size int) {
	if s == "" {
		return 0, 0
	}
	c = s[0]
	if strings.HasPrefix(s, escape) && len(s) >= escapedSize {
		n, _ := strconv.ParseUint(s[len(escape):escapedSize], 16, 8) // where these are no digits it is 0, which is told otherwise than s
		c = byte(n)
	}
	told := spelled(c)
	if !strings.HasPrefix(s, told) {
		return 0, 0
	}
	return c, len(told)
}

// quoted is a text's text.
func quoted(s string) string {
	var out strings.Builder
	out.WriteString(quote)
	for i := range len(s) {
		out.WriteString(spelled(s[i]))
	}
	out.WriteString(quote)
	return out.String()
}

// spelled is how a byte of a text is told: the one place that says so, which reading goes by, too.
func spelled(c byte) string {
	const digits = "0123456789abcdef"
	switch {
	case c == quote[0]:
		return quote + quote
	case c < firstPlain || c == escape[0]:
		return escape + string([]byte{digits[c>>4], digits[c&15]})
	}
	return string([]byte{c})
}
