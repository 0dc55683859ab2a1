package tool_test

import (
	"regexp"
	"slices"
	"sort"
	"strings"
	"testing"

	"cordon/api"
	"cordon/app"
	"cordon/audit"
	"cordon/erase"
	"cordon/flow"
	"cordon/interp"
	"cordon/report"
	"cordon/schema"
	"cordon/script"
	"cordon/store"
	"cordon/syntax"
	"cordon/unparse"
)

// outcome is what Run tells of a job, taken apart.
type outcome struct {
	notes   []string
	verdict string
	told    []string // lines
	end     string
	after   *store.DB // the tables then; nil, if there are none
	answers []string  // of each ask all its lines
}

// outcomeOf takes apart what Run tells of a job's text, whose schema a catalog is of.
func outcomeOf(t *testing.T, c *schema.Catalog, s string) outcome {
	t.Helper()
	got := runOf(s)
	check(t, "Run's error", got.err, api.OK)
	l := strings.Split(strings.TrimSuffix(got.told, "\n"), "\n")
	var o outcome
	isNote := func(line string) bool {
		return strings.HasPrefix(line, "schema ") || strings.HasPrefix(line, "script ") || strings.HasPrefix(line, "flow ")
	}
	for len(l) > 0 && isNote(l[0]) {
		o.notes, l = append(o.notes, l[0]), l[1:]
	}
	if len(l) > 0 {
		o.verdict, l = l[0], l[1:]
	}
	var tables [][][]api.Value
	for _, line := range l {
		word, rest, _ := strings.Cut(line, " ")
		switch {
		case word == "ask":
			o.answers = append(o.answers, line+"\n")
		case len(o.answers) > 0:
			o.answers[len(o.answers)-1] += line + "\n"
		case word == "end":
			o.end = rest
		case word == "table":
			check(t, "the next table", rest, c.Tables()[len(tables)].Name)
			tables = append(tables, nil)
		case len(tables) > 0:
			r, err := report.Read(line)
			check(t, line, err, api.OK)
			tables[len(tables)-1] = append(tables[len(tables)-1], r)
		default:
			o.told = append(o.told, line)
		}
	}
	if o.end != "" && len(tables) == len(c.Tables()) {
		d, _, err := store.Load(c, tables)
		check(t, "all rows fit", err, api.OK)
		o.after = d
	}
	return o
}

// ends tells whether a run ended: not for want of fuel, nor with too many rows.
func (o outcome) ends() bool { return o.end != "fuel" && o.end != "rows" }

// heard are the lines of what was told to some channels.
func (o outcome) heard(channels []string) []string {
	var out []string
	for _, line := range o.told {
		name, _, _ := strings.Cut(line, " ")
		if slices.Contains(channels, name) {
			out = append(out, line)
		}
	}
	return out
}

// seenAt are the names of the channels whose level is seen at a level.
func seenAt(c *schema.Catalog, level int) []string {
	var out []string
	for _, n := range c.Channels() {
		if c.Lattice().Leq(n.Level, level) {
			out = append(out, n.Name)
		}
	}
	return out
}

// begins tells whether a list is a beginning of another one.
func begins(a, b []string) bool { return len(a) <= len(b) && slices.Equal(a, b[:len(a)]) }

// breach is how two runs on tables that are Same at a level break P0.1 or P0.2; empty, if they do not. What it is that is held against each other is told, too.
func breach(c *schema.Catalog, level int, channels []string, a, b outcome) (wrong, held string) {
	x, y := a.heard(channels), b.heard(channels)
	switch {
	case !a.ends() && !b.ends():
		return "", "neither ends"
	case !a.ends() && !begins(x, y), !b.ends() && !begins(y, x):
		return "what was told is no beginning", ""
	case !a.ends() && len(x) < len(y), !b.ends() && len(y) < len(x):
		return "", "one does not end, and tells less"
	case !a.ends() || !b.ends():
		return "", "one does not end"
	case !slices.Equal(x, y):
		return "another thing is told", ""
	case !erase.Same(a.after, b.after, level):
		return "other tables", ""
	case a.end != b.end:
		return "", "both end, each its own way"
	case !slices.Equal(a.told, b.told):
		return "", "both end, and tell other things that are not seen"
	case !a.after.Same(b.after):
		return "", "both end, and leave other things that are not seen"
	}
	return "", "both end"
}

// twin is two stores that are Same at a level.
type twin struct {
	level int
	d, o  *store.DB
}

// twins are some at each level, of one store and others.
func (m *maker) twins(d *store.DB) []twin {
	var out []twin
	for level := range m.s.Levels {
		out = append(out, twin{level, d, m.alike(d, level)}, twin{level, d, erase.Mix(d, m.store(4), level)})
	}
	return out
}

// pair does a job on the rows of both; not, if that is too long to be told.
func (w twin) pair(t *testing.T, m *maker, j api.Job) (a, b outcome, ok bool) {
	t.Helper()
	check(t, "Same", erase.Same(w.d, w.o, w.level), true)
	x := toldJob(with(j, func(j *api.Job) { j.Loads = m.loads(w.d) }))
	y := toldJob(with(j, func(j *api.Job) { j.Loads = m.loads(w.o) }))
	if x == "" || y == "" {
		return a, b, false
	}
	return outcomeOf(t, m.c, x), outcomeOf(t, m.c, y), true
}

// accepted hands each of so many jobs that are accepted, over schemas of any kind, without rows and fuel, to a test.
func accepted(t *testing.T, from, n int, of []api.Schema, try func(m *maker, j api.Job)) {
	t.Helper()
	came := 0
	for seed := from; seed < from+n; seed++ {
		m := newMaker(seed, of...)
		s, ok := m.freed(m.script())
		if !ok {
			continue
		}
		schemaText, scriptText, ok := m.texts(s)
		if !ok {
			continue
		}
		came++
		try(m, api.Job{Schema: schemaText, Script: scriptText, Inputs: m.inputs()})
		if t.Failed() {
			t.Fatalf("seed %d: %s\n%s", seed, schemaText, scriptText)
		}
	}
	if came < n/2 {
		t.Errorf("just %d of %d scripts are right", came, n)
	}
}

// P0.1 and P0.2, over schemas, scripts, tables and levels made in a loop.
func TestBlind(t *testing.T) {
	came := map[string]int{}
	accepted(t, 100000, 900, lattices(), func(m *maker, j api.Job) {
		for _, w := range m.twins(m.store(4)) {
			j.Fuel = pick(m, 10, 30, 100, 1000)
			a, b, ok := w.pair(t, m, j)
			if !ok {
				continue
			}
			check(t, "both are accepted", a.verdict == "accepted" && b.verdict == "accepted", true)
			wrong, held := breach(m.c, w.level, seenAt(m.c, w.level), a, b)
			check(t, m.s.Levels[w.level], wrong, "")
			came[held]++
			if len(a.heard(seenAt(m.c, w.level))) > 0 {
				came[held+": something is told"]++
			}
		}
	})
	enough(t, came, 100, "neither ends", "one does not end", "both end, each its own way", "both end, and tell other things that are not seen", "both end, and leave other things that are not seen")
	enough(t, came, 5, "one does not end, and tells less", "one does not end: something is told", "both end, and tell other things that are not seen: something is told")
}

// least is with how much fuel an application no longer ends for want of it, on some tables.
func least(a *app.App, c *schema.Catalog, d *store.DB, inputs []int, most int) int {
	rows := numbered(len(c.Tables()), func(i int) [][]api.Value { return d.Rows(i) })
	return sort.Search(most, func(fuel int) bool {
		_, _, err := a.Run(rows, inputs, fuel)
		return err != api.ErrFuel
	})
}

// P0.2: with fuel that is enough for just one of two runs, and as little less as there may be.
func TestBegun(t *testing.T) {
	came := map[string]int{}
	accepted(t, 200000, 700, lattices(), func(m *maker, j api.Job) {
		of, _ := app.New(j.Schema, j.Script)
		for _, w := range m.twins(m.store(4)) {
			const most = 400
			x, y := least(of, m.c, w.d, j.Inputs, most), least(of, m.c, w.o, j.Inputs, most)
			if x == y {
				continue
			}
			for _, fuel := range one(min(x, y), (x+y)/2, max(x, y)-1, max(x, y)) {
				j.Fuel = fuel
				a, b, ok := w.pair(t, m, j)
				if !ok {
					continue
				}
				wrong, held := breach(m.c, w.level, seenAt(m.c, w.level), a, b)
				check(t, m.s.Levels[w.level], wrong, "")
				came[held]++
			}
		}
	})
	enough(t, came, 300, "one does not end")
	enough(t, came, 50, "one does not end, and tells less", "both end, and leave other things that are not seen")
}

// Of scripts that are not accepted some, which no job runs, break what is promised, in each way: so breach finds what is not so.
func TestOthersAreNotBlind(t *testing.T) {
	came := map[string]int{}
	for seed := range 700 {
		m := newMaker(300000+seed, lattices()...)
		p, _, err := script.Compile(m.c, m.script())
		if err != api.OK || len(flow.Check(m.c, p).Diags) == 0 {
			continue
		}
		for _, w := range m.twins(m.store(4)) {
			inputs, fuel := m.inputs(), pick(m, 30, 1000)
			run := func(d *store.DB) outcome {
				after, told, err := interp.Run(d, p, inputs, fuel)
				return outcome{told: strings.Split(report.Outs(m.c.Channels(), told), "\n"), end: errWords[err], after: after}
			}
			wrong, _ := breach(m.c, w.level, seenAt(m.c, w.level), run(w.d), run(w.o))
			came[wrong]++
		}
	}
	enough(t, came, 30, "another thing is told", "other tables", "what was told is no beginning")
}

// fourWays are the words of how what is accepted may end.
var fourWays = map[string]string{
	"ok": "well", "fuel": "for want of fuel", "rows": "with too many rows",
	"overflow": "caught", "zero": "caught", "key": "caught", "raise": "caught", "many": "caught", "null": "caught", "single": "caught",
}

// P0.3: what is accepted ends in one of four ways, whatever its levels are; what it leaves in tables fits (outcomeOf looks for that).
func TestEnds(t *testing.T) {
	came := map[string]int{}
	accepted(t, 400000, 1500, lattices(), func(m *maker, j api.Job) {
		for range 3 {
			j.Loads, j.Fuel = m.loads(m.store(4)), pick(m, 0, 3, 20, 200, api.MaxFuel)
			s := toldJob(j)
			if s == "" {
				continue
			}
			o := outcomeOf(t, m.c, s)
			check(t, "the verdict", o.verdict, "accepted")
			check(t, o.end, fourWays[o.end] != "", true)
			check(t, "there are tables", o.after != nil, true)
			came[fourWays[o.end]]++
			came["by "+o.end]++
		}
	})
	enough(t, came, 100, "well", "caught", "for want of fuel", "with too many rows")
	enough(t, came, 10, "by key", "by raise", "by null", "by zero", "by single")
}

// P0.3: with one level alone all that is right is accepted, as it stands.
func TestOneLevel(t *testing.T) {
	came := map[string]int{}
	for seed := range 1500 {
		m := newMaker(500000+seed, api.Schema{Levels: one("one")})
		of, text, ok := m.texts(m.script())
		if !ok {
			continue
		}
		j := api.Job{Schema: of, Script: text, Loads: m.loads(m.store(4)), Inputs: m.inputs(), Fuel: pick(m, 20, 200, 2000), Asks: m.asks(2)}
		s := toldJob(j)
		if s == "" {
			continue
		}
		o := outcomeOf(t, m.c, s)
		check(t, s, o.verdict, "accepted")
		check(t, s, len(o.notes), 0)
		check(t, s, fourWays[o.end] != "", true)
		came[fourWays[o.end]]++
		for _, a := range o.answers {
			check(t, a, strings.Contains(a, "error flow"), false)
		}
		if t.Failed() {
			t.Fatalf("seed %d", seed)
		}
	}
	enough(t, came, 50, "well", "caught", "for want of fuel", "with too many rows")
}

var place = regexp.MustCompile(` \d+:\d+: `)

// withoutPlaces is what Run tells, without the places of notes: these hang on how a text is laid out.
func withoutPlaces(s string) string { return place.ReplaceAllString(s, " ") }

// toldAgain are a schema's and a script's texts as layer 7 tells what layer 6 reads of them.
func toldAgain(schemaText, scriptText string) (string, string, bool) {
	s, _, err := syntax.Schema(schemaText)
	r, _, wrong := syntax.Script(scriptText)
	if err != api.OK || wrong != api.OK {
		return "", "", false
	}
	of, err := unparse.Schema(s)
	text, wrong := unparse.Script(r)
	return ended(of), ended(text), err == api.OK && wrong == api.OK
}

// P0.4: a schema and a script that are told as texts, and read again, are accepted, or not, as they were, and do the same; queries likewise.
func TestToldAgain(t *testing.T) {
	came := map[string]int{}
	for seed := range 1500 {
		m := newMaker(600000+seed, append(lattices(), api.Schema{Levels: one("one")})...)
		s := m.script()
		if m.often(60) {
			s, _ = m.freed(s)
		}
		of, text, ok := m.texts(s)
		if !ok {
			continue
		}
		j := api.Job{Loads: m.loads(m.store(4)), Inputs: m.inputs(), Fuel: pick(m, 20, 300), Asks: m.asks(3)}
		j.Schema, j.Script = m.scattered(of), m.scattered(text)
		if m.often(30) {
			j.Schema = m.bent(j.Schema)
		}
		if m.often(30) {
			j.Script = m.bent(j.Script)
		}
		k := copied(j)
		if k.Schema, k.Script, ok = toldAgain(j.Schema, j.Script); !ok {
			continue
		}
		for i, a := range k.Asks {
			q, _, _ := syntax.Query(a.Query)
			j.Asks[i].Query = m.scattered(a.Query)
			again, _ := unparse.Query(q)
			k.Asks[i].Query = again + "\n"
		}
		x, y := toldJob(j), toldJob(k)
		if x == "" || y == "" {
			continue
		}
		first, second := runOf(x), runOf(y)
		check(t, x, withoutPlaces(first.told), withoutPlaces(second.told))
		check(t, "without errors", first.err == api.OK && second.err == api.OK, true)
		for _, line := range strings.Split(first.told, "\n") {
			came[kindOfLine(line)]++
		}
		if t.Failed() {
			t.Fatalf("seed %d", seed)
		}
	}
	enough(t, came, 50, "accepted", "rejected", "flow", "schema", "script", "end ok", "end fuel", "error flow")
}

// P0.4: a program of a script as it was made does what the script's text does, and is rejected for the same reasons.
func TestTextDoesTheSame(t *testing.T) {
	came := map[string]int{}
	for seed := range 1200 {
		m := newMaker(700000+seed, lattices()...)
		s := m.script()
		if m.often(60) {
			s, _ = m.freed(s)
		}
		of, text, ok := m.texts(s)
		if !ok {
			continue
		}
		d, inputs, fuel := m.store(4), m.inputs(), pick(m, 20, 300)
		told := toldJob(api.Job{Schema: of, Script: text, Loads: m.loads(d), Inputs: inputs, Fuel: fuel})
		if told == "" {
			continue
		}
		got := outcomeOf(t, m.c, told)
		p, _, _ := script.Compile(m.c, s)
		diags := flow.Check(m.c, p).Diags
		whys := numbered(len(diags), func(i int) string {
			return "flow flow " + one("", "print", "column", "rows", "saved", "input")[diags[i].Why]
		})
		notes := numbered(len(got.notes), func(i int) string { return withoutPlaces(got.notes[i]) })
		check(t, told, strings.Join(notes, ", "), strings.Join(whys, ", "))
		came[got.verdict]++
		if len(diags) > 0 {
			check(t, told, got.verdict, "rejected")
			continue
		}
		after, outs, err := interp.Run(d, p, inputs, fuel)
		check(t, told, lines(got.told...), report.Outs(m.c.Channels(), outs))
		check(t, told, got.end, errWords[err])
		check(t, told, got.after.Same(after), true)
		if t.Failed() {
			t.Fatalf("seed %d", seed)
		}
	}
	enough(t, came, 100, "accepted", "rejected")
}

// asker is the level of whom an answer is for.
func (m *maker) asker(answer string) int {
	who := strings.Fields(answer)[1]
	level, ok := m.c.Principal(who)
	if !ok {
		panic(who)
	}
	return level
}

// P0.5: what a principal is told, and answered, is the same on tables that it sees as the same; in jobs that are rejected, too, which tell it nothing else.
func TestPrincipals(t *testing.T) {
	came := map[string]int{}
	for seed := range 700 {
		m := newMaker(800000+seed, lattices()...)
		s := m.script()
		if m.often(70) {
			s, _ = m.freed(s)
		}
		of, text, ok := m.texts(s)
		if !ok {
			continue
		}
		j := api.Job{Schema: of, Script: text, Inputs: m.inputs(), Fuel: pick(m, 20, 100, 1000), Asks: m.asks(12)}
		for _, w := range m.twins(m.store(4)) {
			a, b, ok := w.pair(t, m, j)
			if !ok {
				continue
			}
			check(t, "verdicts", a.verdict, b.verdict)
			check(t, "notes", slices.Equal(a.notes, b.notes), true)
			came[a.verdict]++
			for i, x := range a.answers {
				y := b.answers[i]
				level := m.asker(x)
				switch {
				case !m.sees(w.level, level):
					if x != y {
						came["another answer to one that sees more"]++
					}
				case strings.Contains(x+y, "error rows"):
					came["too many rows"]++
				default:
					check(t, j.Asks[i].Query, x, y)
					if strings.Contains(x, "error flow") {
						came["may not ask"]++
					} else if strings.Count(x, "\n") > 1 && !strings.Contains(x, "error") {
						came["rows"]++
					}
				}
			}
			if a.verdict == "rejected" {
				check(t, "a rejected one tells nothing", len(a.told)+len(b.told), 0)
				continue
			}
			for _, p := range m.s.Principals {
				if level, _ := m.c.Principal(p.Low); m.sees(w.level, level) {
					wrong, held := breach(m.c, level, audit.Hears(m.c, p.Low), a, b)
					check(t, p.Low, wrong, "")
					came[held]++
				}
			}
		}
		if t.Failed() {
			t.Fatalf("seed %d: %s\n%s", seed, of, text)
		}
	}
	enough(t, came, 100, "accepted", "rejected", "rows", "may not ask", "another answer to one that sees more", "both end, and tell other things that are not seen")
	enough(t, came, 50, "one does not end")
}
