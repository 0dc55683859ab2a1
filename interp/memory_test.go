package interp_test

import (
	"slices"
	"testing"

	"cordon/api"
	"cordon/interp"
)

// Rules 3, 5 and 6, and P2, of scripts made in a loop: what is handed out stays as it is, whatever becomes of what was handed in, and the other way round; a list without members may be nil or empty; and no run, whether it ends well or not, changes what another one answers.
func TestApart(t *testing.T) {
	ends := map[string]int{}
	for seed := range 1500 {
		m := makerOf(t, 400000+seed)
		d, p, inputs, fuel := m.db(), compiled(t, m.catalog, m.script()), m.inputs(), pick(m, 15, 200)
		first := ask{d, p, inputs, fuel}.run()
		kept := answer{first.tables.Copy(), slices.Clone(first.told), first.err}
		ends[errNames[first.err]]++
		for _, handed := range []api.Program{roomy(p), emptied(p), copied(p)} {
			a := ask{d.Copy(), handed, slices.Clone(inputs), fuel}
			got := a.run()
			if !got.same(kept) {
				t.Fatalf("seed %d: %s, and %s ahead", seed, got.text(d), kept.text(d))
			}
			spoil(&handed)
			for i := range a.inputs {
				a.inputs[i] += 99
			}
			for i := range m.tables {
				a.db.Put(i, nil)
			}
			if !got.same(kept) {
				t.Fatalf("seed %d: it hangs on what was handed in", seed)
			}
			for i := range m.tables {
				got.tables.Put(i, nil)
			}
			spoil(&got.told)
		}
		interp.Run(nil, p, inputs, fuel)
		interp.Run(d, api.Program{}, inputs, fuel)
		if got := (ask{d, p, inputs, fuel}).run(); !got.same(kept) || !first.same(kept) {
			t.Fatalf("seed %d: another answer than ahead", seed)
		}
	}
	enough(t, ends, 20, "OK", "ErrRaise", "ErrFuel", "ErrRows", "ErrNull", "ErrKey")
}

// What a run answers may be run over again, and the answer of that again: each is its own.
func TestAnswersAreApart(t *testing.T) {
	for _, text := range []string{"insert into o values (1);", "begin; insert into o values (1); commit;", "begin; rollback; insert into o values (1);", "begin; insert into o values (2); rollback; insert into o values (1);"} {
		p, d := programOf(t, ourCatalog(), text), ours()
		var kept []string
		answers := one(answer{tables: d})
		for i := range 6 {
			kept = append(kept, rowsTold(answers[i].tables.Rows(3)))
			answers = append(answers, watched(t, ask{answers[i].tables, p, nil, 20}))
		}
		check(t, text, errNames[answers[5].err]+" "+errNames[answers[6].err], "OK ErrRows")
		for i, want := range kept {
			check(t, text, rowsTold(answers[i].tables.Rows(3)), want)
		}
		check(t, text, kept[2], "(8) (1) (1)")
	}
}
