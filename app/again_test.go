package app_test

import (
	"strings"
	"testing"

	"cordon/api"
	"cordon/app"
	"cordon/flow"
	"cordon/schema"
	"cordon/script"
	"cordon/syntax"
	"cordon/token"
)

// second is what New's notes are, and whether there is an application, layer by layer.
func second(schemaText, scriptText string) ([]api.Note, bool) {
	s, schemaAt, schemaForm := syntax.Schema(schemaText)
	c, _, schemaErr := schema.New(s)
	r, scriptAt, scriptForm := syntax.Script(scriptText)
	p, compileAt, compileErr := script.Compile(c, r)
	for _, n := range []api.Note{{Part: 0, At: schemaAt, Err: schemaForm}, {Part: 0, Err: schemaErr}, {Part: 1, At: scriptAt, Err: scriptForm}, {Part: 1, At: compileAt, Err: compileErr}} {
		if n.Err != api.OK {
			return one(n), false
		}
	}
	v := flow.Check(c, p)
	return numbered(len(v.Diags), func(i int) api.Note {
		return api.Note{Part: 2, At: v.Diags[i].At, Err: api.ErrFlow, Why: v.Diags[i].Why}
	}), true
}

// holds looks whether an application of two texts is what the second way says.
func holds(t *testing.T, schemaText, scriptText string) string {
	t.Helper()
	a, notes := app.New(schemaText, scriptText)
	want, is := second(schemaText, scriptText)
	check(t, schemaText+" and "+scriptText, notesTold(notes), notesTold(want))
	check(t, "an application", a != nil, is)
	check(t, "accepted", a.Accepted(), is && len(want) == 0)
	if a == nil {
		return noteKind(notes[0])
	}
	check(t, "the verdict", same(a.Verdict(), verdictOf(t, schemaText, scriptText)), true)
	if len(notes) == 0 {
		return "accepted"
	}
	return "refused"
}

func noteKind(n api.Note) string {
	place := ""
	if n.At > 0 {
		place = " at a place"
	}
	return one("schema ", "script ")[n.Part] + errNames[n.Err] + place
}

// bent is a text of which one token is changed: most often it is another one of its kind that stands in the text, else it is gone, stands twice, or is anything.
func (m *maker) bent(text string) string {
	l, _, err := token.Scan(text)
	if err != api.OK || len(l) < 3 {
		return text
	}
	piece := func(i int) string { return text[l[i].At:l[i+1].At] }
	i, j := m.Intn(len(l)-1), m.Intn(len(l)-1)
	for l[j].Kind != l[i].Kind || token.Word(l[j].Text) != token.Word(l[i].Text) {
		j = m.Intn(len(l) - 1)
	}
	with := piece(j)
	if m.often(30) {
		with = pick(m, "", piece(i)+" "+piece(i), "x", "0", "'", "(", "$", "low", "null")
	}
	return text[:l[i].At] + with + " " + text[l[i+1].At:]
}

// P24.1, P24.2, of texts made in a loop, some of which are bent: what the second way says.
func TestMade(t *testing.T) {
	came := map[string]int{}
	for seed := range 900 {
		m := newMaker(600000 + seed)
		of, text, ok := m.texts(m.script())
		if !ok {
			continue
		}
		came[holds(t, of, text)]++
		for range 3 {
			came[holds(t, of, m.bent(text))]++
			came[holds(t, m.bent(of), text)]++
			came[holds(t, m.bent(of), m.bent(text))]++
		}
		if s, ok := m.freed(m.script()); ok {
			if of, text, ok := m.texts(s); ok {
				check(t, "freed", holds(t, of, text), "accepted")
			}
		}
		if t.Failed() {
			t.Fatalf("seed %d", seed)
		}
	}
	enough(t, came, 40, "accepted", "refused", "schema ErrForm at a place", "schema ErrName", "schema ErrLevel", "schema ErrFlow", "script ErrForm at a place", "script ErrName at a place", "script ErrType at a place")
	enough(t, came, 5, "schema ErrForm", "schema ErrShape", "schema ErrType", "script ErrForm", "script ErrName", "script ErrShape at a place")
}

// All beginnings of two texts, and all their ends.
func TestCutTexts(t *testing.T) {
	const text = "var x int; proc p(a int) { print out :a + 1; } for x in select b as b from t { print log :x; call p(:x); }"
	for i := range len(base) {
		holds(t, base[:i], text)
		holds(t, base[i:], text)
	}
	for i := range len(text) {
		holds(t, base, text[:i])
		holds(t, base, text[i:])
		holds(t, base[:i], text[:i])
	}
}

// The same texts make the same each time, whatever was made between.
func TestMadeAgain(t *testing.T) {
	madeIn(t, 700000, 400, func(m *maker, a made) {
		d, inputs := m.store(4), m.inputs()
		was := answerOf(a.Run(rowsIn(d), inputs, 200))
		for range 3 {
			b, notes := app.New(a.of, a.text)
			check(t, "notes", notesTold(notes), "")
			check(t, "the verdict", same(b.Verdict(), a.Verdict()), true)
			check(t, "a run", answerOf(b.Run(rowsIn(d), inputs, 200)).same(was), true)
			app.New(a.text, a.of)
			app.New(a.of, strings.Repeat(a.text, 2))
		}
	})
}
