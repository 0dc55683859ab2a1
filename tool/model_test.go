package tool_test

import (
	"fmt"
	"math/rand"
	"regexp"
	"slices"
	"strconv"
	"strings"
	"testing"

	"cordon/api"
	"cordon/report"
	"cordon/tool"
	"cordon/value"
)

// patterns are what lines that begin sections look like.
var patterns = []*regexp.Regexp{
	regexp.MustCompile(`\A#(schema)\z`), regexp.MustCompile(`\A#(script)\z`), regexp.MustCompile(`\A#(inputs)\z`),
	regexp.MustCompile(`\A#(rows) ([0-9A-Za-z_]{1,30})\z`), regexp.MustCompile(`\A#(ask) ([0-9A-Za-z_]{1,30})\z`), regexp.MustCompile(`\A#(fuel) (0|[1-9][0-9]{0,8})\z`),
}

var input = regexp.MustCompile(`\A(0|-?[1-9][0-9]{0,8})\z`)

// headed tells what section a line begins, and of what.
func headed(line string) (word, what string) {
	for _, p := range patterns {
		if m := p.FindStringSubmatch(line); m != nil {
			return m[1], strings.Join(m[2:], "")
		}
	}
	return "", ""
}

// secondParse is a job, or a line and an error, by a second way: each line is looked at with the head that stands closest ahead of it.
func secondParse(s string) (api.Job, int, api.Errno) {
	if len(s) > api.MaxSource {
		return api.Job{}, 0, api.ErrMany
	}
	l := strings.Split(s, "\n")
	if l[len(l)-1] == "" {
		l = l[:len(l)-1]
	}
	var j api.Job
	word, what := "ahead", ""
	for i, line := range l {
		if strings.HasPrefix(line, "#") {
			if word, what = headed(line); word == "" {
				return api.Job{}, i + 1, api.ErrForm
			}
			beginsIn(&j, word, what)
			continue
		}
		if err := goesInto(&j, word, line); err != api.OK {
			return api.Job{}, i + 1, err
		}
	}
	return j, 0, api.OK
}

func beginsIn(j *api.Job, word, what string) {
	switch word {
	case "schema":
		j.Schema = ""
	case "script":
		j.Script = ""
	case "rows":
		j.Loads = append(j.Loads, api.Load{Table: what})
	case "ask":
		j.Asks = append(j.Asks, api.Ask{Who: what})
	case "fuel":
		j.Fuel, _ = strconv.Atoi(what)
	}
}

func goesInto(j *api.Job, word, line string) api.Errno {
	switch word {
	case "schema":
		j.Schema += line + "\n"
	case "script":
		j.Script += line + "\n"
	case "ask":
		j.Asks[len(j.Asks)-1].Query += line + "\n"
	case "rows":
		r, err := report.Read(line)
		if err != api.OK {
			return err
		}
		last := &j.Loads[len(j.Loads)-1]
		last.Rows = append(last.Rows, r)
	case "inputs":
		n, _ := strconv.Atoi(line)
		j.Inputs = append(j.Inputs, n)
		if !input.MatchString(line) {
			return api.ErrForm
		}
	default:
		if line != "" {
			return api.ErrForm
		}
	}
	return api.OK
}

var name = regexp.MustCompile(`\A[0-9A-Za-z_]{1,30}\z`)

// secondTell is a text, or an error, by a second way.
func secondTell(j api.Job) (string, api.Errno) {
	ok := true
	text := func(s string) string {
		ok = ok && (s == "" || s[len(s)-1] == '\n')
		for _, line := range strings.Split(s, "\n") {
			ok = ok && !strings.HasPrefix(line, "#")
		}
		return s
	}
	number := func(n, least int) string {
		ok = ok && least <= n && n <= 999999999
		return fmt.Sprintln(n)
	}
	named := func(s string) string {
		ok = ok && name.MatchString(s)
		return s + "\n"
	}
	out := one("#schema\n", text(j.Schema), "#script\n", text(j.Script))
	for _, l := range j.Loads {
		out = append(out, "#rows ", named(l.Table))
		for _, r := range l.Rows {
			ok = ok && len(r) > 0 && len(r) <= api.MaxCols && !slices.ContainsFunc(r, func(v api.Value) bool { return value.Right(v) != api.OK })
			out = append(out, report.Row(r), "\n")
		}
	}
	for i, n := range j.Inputs {
		if i == 0 {
			out = append(out, "#inputs\n")
		}
		out = append(out, number(n, -999999999))
	}
	out = append(out, "#fuel ", number(j.Fuel, 0))
	for _, a := range j.Asks {
		out = append(out, "#ask ", named(a.Who), text(a.Query))
	}
	s := strings.Join(out, "")
	switch {
	case !ok:
		return "", api.ErrForm
	case len(s) > api.MaxSource:
		return "", api.ErrMany
	}
	return s, api.OK
}

// holdsParse looks whether Parse of a text is what the second way says, and tells how it ended.
func holdsParse(t *testing.T, s string) string {
	t.Helper()
	want, at, err := secondParse(s)
	if err != api.OK {
		stops(t, s, at, err)
		return fmt.Sprint(err, " ", min(at, 3))
	}
	parses(t, s, want)
	return "right"
}

// pieces of which lines are made.
var linePieces = []string{
	"#schema", "#script", "#inputs", "#rows t", "#ask ann", "#fuel 9", "#rows", "#ask", "#fuel", "#rows ", "#fuel 0", "#fuel 01", "#", "#nosuch", "#schema ", "#rows t u", "# schema",
	"", "", "", "1", "-1", "0", "00", "-0", "7, 'a'", "null", "'it''s'", "1, ", "x", " ", "select 1 as x", "levels low;", "print out 1;", "true", "'", "999999999", "1000000000",
	strings.Repeat("1, ", api.MaxCols) + "1", strings.Repeat("1, ", api.MaxCols-1) + "1",
}

// madeText makes a job's text, most often of sections with lines that may stand in them.
func madeText(r *rand.Rand) string {
	fits := map[string][]string{
		"#schema": {"", "levels low;", "x", " ", "1"}, "#script": {"", "print out 1;", "\t"}, "#ask ann": {"select 1 as x", "", "x"}, "#inputs": {"1", "-1", "0", "999999999", "-999999999"}, "#rows t": {"1", "7, 'a'", "null", "'#'", "-1, true"}, "#fuel 9": {""}, "": {""},
	}
	heads := []string{"", "#schema", "#script", "#ask ann", "#inputs", "#rows t", "#fuel 9"}
	var l []string
	for i := range 1 + r.Intn(6) {
		head := heads[r.Intn(len(heads))]
		if i > 0 && head == "" {
			continue
		}
		if head != "" {
			l = append(l, head)
		}
		for range r.Intn(4) {
			l = append(l, fits[head][r.Intn(len(fits[head]))])
		}
	}
	for range r.Intn(3) * r.Intn(2) {
		l = slices.Insert(l, r.Intn(len(l)+1), linePieces[r.Intn(len(linePieces))])
	}
	s := lines(l...)
	if r.Intn(3) == 0 {
		s = strings.TrimSuffix(s, "\n")
	}
	return s
}

// P25.1, of texts made in a loop, some of which have a byte changed.
func TestParseMade(t *testing.T) {
	came := map[string]int{}
	for seed := range 40000 {
		r := rand.New(rand.NewSource(int64(seed)))
		s := madeText(r)
		came[holdsParse(t, s)]++
		if s != "" {
			at, b := r.Intn(len(s)), string([]byte{"\n# #019aZ_,'-\x00\xff\r"[r.Intn(16)]})
			came[holdsParse(t, s[:at]+b+s[at+1:])]++
			came[holdsParse(t, s[:at]+b+s[at:])]++
			came[holdsParse(t, s[:at]+s[at+1:])]++
			came[holdsParse(t, s[:at])]++
			came[holdsParse(t, s[at:])]++
		}
		if t.Failed() {
			t.Fatalf("seed %d", seed)
		}
	}
	enough(t, came, 1000, "right", "error 10 1", "error 10 2", "error 10 3")
	enough(t, came, 50, "error 8 3")
}

// Short texts: all of up to four lines out of some, ended and not.
func TestParseShort(t *testing.T) {
	few := []string{"", "#", "#schema", "#rows t", "#inputs", "#fuel 3", "#ask a", "1", "x", "-0"}
	came := map[string]int{}
	var grow func(s string, deep int)
	grow = func(s string, deep int) {
		came[holdsParse(t, s)]++
		came[holdsParse(t, strings.TrimSuffix(s, "\n"))]++
		if deep == 0 || t.Failed() {
			return
		}
		for _, line := range few {
			grow(s+line+"\n", deep-1)
		}
	}
	grow("", 4)
	enough(t, came, 1000, "right", "error 10 1", "error 10 2", "error 10 3")
}

// madeJob makes a job that can be told, most often.
func madeJob(r *rand.Rand) api.Job {
	text := func() string {
		return lines(numbered(r.Intn(4), func(int) string {
			return []string{"", "a", " #", "select 1 as x", "x\ty", "\x00\xff", strings.Repeat("z", r.Intn(100))}[r.Intn(7)]
		})...)
	}
	number := func() int {
		return []int{0, 1, -1, r.Intn(100), 999999999, -999999999, r.Intn(1e9), -r.Intn(1e9)}[r.Intn(8)]
	}
	name := func() string {
		return []string{"t", "u", "ann", "_", "0", "A9_", strings.Repeat("q", api.MaxName)}[r.Intn(7)]
	}
	j := api.Job{Schema: text(), Script: text(), Fuel: max(0, number())}
	j.Loads = numbered(r.Intn(4), func(int) api.Load {
		return load(name(), numbered(r.Intn(4), func(int) []api.Value { return madeRow(r) })...)
	})
	j.Inputs = numbered(r.Intn(4), func(int) int { return number() })
	j.Asks = numbered(r.Intn(4), func(int) api.Ask { return api.Ask{Who: name(), Query: text()} })
	return j
}

func madeRow(r *rand.Rand) []api.Value {
	n := 1 + r.Intn(4)
	if r.Intn(20) == 0 {
		n = api.MaxCols
	}
	return numbered(n, func(int) api.Value {
		switch r.Intn(5) {
		case 0:
			return value.Null()
		case 1:
			return value.Bool(r.Intn(2) == 0)
		case 2:
			return num(r.Int() - r.Int())
		case 3:
			return num(r.Intn(5) - 2)
		}
		return text(string(numbered(r.Intn(8), func(int) byte { return "a'\\\n#, \x00\xff"[r.Intn(9)] })))
	})
}

// bendJob changes one thing in a job, so that it can't be told, most often, or is too long.
func bendJob(r *rand.Rand, all []wrong, j *api.Job) {
	if r.Intn(5) == 0 {
		j.Script += strings.Repeat("y", api.MaxSource-30-r.Intn(300)) + "\n"
		return
	}
	all[r.Intn(len(all))].change(j)
}

// P25.2 and P25.4, of jobs made in a loop: Tell is what the second way says, Parse of it is the job, and Tell of that the text.
func TestTellMade(t *testing.T) {
	came, all := map[api.Errno]int{}, wrongs()
	for seed := range 20000 {
		r := rand.New(rand.NewSource(int64(seed)))
		j := madeJob(r)
		for range r.Intn(3) * r.Intn(2) {
			bendJob(r, all, &j)
		}
		want, err := secondTell(j)
		came[err]++
		if err != api.OK {
			refused(t, fmt.Sprintf("%+v", j), j, err)
			continue
		}
		tells(t, j, want)
		back, _, _ := tool.Parse(want)
		tells(t, back, want)
		if t.Failed() {
			t.Fatalf("seed %d", seed)
		}
	}
	enough(t, came, 400, api.OK, api.ErrForm, api.ErrMany)
}

// What is read can be told, but rows of no value, and what is too long then; and it is read as the same again.
func TestTellOfParse(t *testing.T) {
	came := map[api.Errno]int{}
	for seed := range 20000 {
		s := madeText(rand.New(rand.NewSource(int64(seed))))
		j, _, err := tool.Parse(s)
		if err != api.OK {
			continue
		}
		want, err := secondTell(j)
		came[err]++
		if err != api.OK {
			refused(t, s, j, err)
			check(t, s, slices.ContainsFunc(j.Loads, func(l api.Load) bool {
				return slices.ContainsFunc(l.Rows, func(r []api.Value) bool { return len(r) == 0 })
			}), true)
			continue
		}
		tells(t, j, want)
	}
	enough(t, came, 5000, api.OK)
	enough(t, came, 20, api.ErrForm)
}
