package audit_test

import (
	"fmt"
	"slices"
	"strings"
	"testing"

	"cordon/api"
	"cordon/audit"
	"cordon/engine"
	"cordon/store"
)

// P22.3: what is answered, of tables with hidden rows, to those who may ask.
func TestAsk(t *testing.T) {
	flow := api.ErrFlow.Error()
	for _, x := range []struct{ query, low, a, b, high string }{
		{"select 1 as x", "1", "1", "1", "1"},
		{"select i as x from t", "1; 2", "1; 2", "1; 2", "1; 2"},
		{"select i as x, x as y from t", flow, "1 2; 2 null", flow, "1 2; 2 null"},
		{"select y as x from t order by x desc", flow, flow, "'y'; 'x'", "'y'; 'x'"},
		{"select i as x, z as y from t", flow, flow, flow, "1 true; 2 null"},
		{"select k as x from h visible", "2; 1; 4", "2; 1; 4", "2; 1; 4", "2; 1; 4"},
		{"select k as x from h", flow, flow, flow, "1; 2; 1; 3; 4; 5"},
		{"select count(*) as x from h", flow, flow, flow, "6"},
		{"select count(*) as x from h visible", "3", "3", "3", "3"},
		{"select n as x from m", flow, "3; -1; 3; -1; 5", flow, "3; -1; 3; -1; 5"},
		{"select n as x, count(*) as y from m visible group by n", "3 2; 5 1", "3 2; 5 1", "3 2; 5 1", "3 2; 5 1"},
		{"select n as x, sum(p) as y from m visible group by n", flow, flow, "3 14; 5 null", "3 14; 5 null"},
		{"select n as x from g visible", flow, flow, "4", "4"},
		{"select n as x from g", flow, flow, "0; 4; 0", "0; 4; 0"},
		{"select t.i as x, u.v as y from t left join u on t.i = u.k", flow, "1 5; 2 null", flow, "1 5; 2 null"},
		{"select i as x from t where i in (select k as k from h visible)", "1; 2", "1; 2", "1; 2", "1; 2"},
		{"select i as x from t where exists (select k as k from h where f)", flow, flow, flow, "1; 2"},
		{"select k as x from h visible except select i as x from t", "4", "4", "4", "4"},
		{"select (select count(*) as c from u) as x", flow, "2", flow, "2"},
		{"select i as x from t where i > 7", "", "", "", ""},
		{"select i as x from t where x > 7", flow, "", flow, ""},
		{"select i as x from t limit 0", "", "", "", ""},
		{"select :v as x, :w as y", "null null", "null null", "null null", "null null"},
		{"select i as x from t where i > :v", "", "", "", ""},
		{"select i + :v as x from t", "null; null", "null; null", "null; null", "null; null"},
	} {
		for _, c := range ours() {
			d, p := ourStore(c), planOf(c, x.query)
			for level, want := range map[string]string{"low": x.low, "a": x.a, "b": x.b, "high": x.high} {
				for _, who := range ourPeople()[level] {
					check(t, who+": "+x.query, askedTold(d, who, p), want)
				}
			}
		}
	}
}

// P22.3: all that may be asked is what the plan comes to.
func TestAskIsRows(t *testing.T) {
	for _, c := range ours() {
		for _, d := range one(ourStore(c), store.New(c)) {
			for _, x := range asked() {
				p := planOf(c, x.query)
				rows, err := engine.Rows(d, nil, p)
				for level, people := range ourPeople() {
					want := api.ErrFlow.Error()
					if slices.Contains(strings.Fields(x.by), level) {
						want = answerTold(rows, err)
					}
					for _, who := range people {
						check(t, who+": "+x.query, askedTold(d, who, p), want)
					}
				}
			}
		}
	}
}

// P22.3: no store, whoever asks for whatever.
func TestAskOfNil(t *testing.T) {
	c := ours()[0]
	for _, d := range noStores() {
		for _, who := range append(strangers(), "ann", "zoe") {
			for _, text := range []string{"select 1 as x", "select i as x from t", "select z as x from t", "select 7 / 0 as x"} {
				check(t, who, askedTold(d, who, planOf(c, text)), api.ErrNil.Error())
			}
			check(t, who, askedTold(d, who, api.Plan{}), api.ErrNil.Error())
		}
	}
}

// P22.3: May's error comes ahead of the plan's own, which is told where it may be asked.
func TestAskErrors(t *testing.T) {
	for _, x := range []struct {
		query, by string
		err       api.Errno
	}{
		{"select 7 / 0 as x", everybody, api.ErrZero}, {"select i / 0 as x from t", everybody, api.ErrZero}, {"select (i + 999999999) * 999999999 * 999999999 as x from t", everybody, api.ErrOver}, {"select i as x from t where 7 % (i - 2) = 0", everybody, api.ErrZero},
		{"select x / 0 as x from t", "a high", api.ErrZero}, {"select y || (select max(s) as s from h) as x, 1 / 0 as y from t", "high", api.ErrZero}, {"select 7 / (x - 2) as x from t", "a high", api.ErrZero}, {"select 1 as x from (select 7 / (x - 2) as y from t) as q", "a high", api.ErrZero},
		{"select 7 / 0 as x from h", "high", api.ErrZero}, {"select 7 / 0 as x from h visible", everybody, api.ErrZero}, {"select 7 / 0 as x from u", "a high", api.ErrZero}, {"select (select i as i from t) as x", everybody, api.ErrSingle}, {"select (select k as k from h) as x", "high", api.ErrSingle},
		{"select (select v as v from u) as x", "a high", api.ErrSingle}, {"select count(*) as x from t where exists (select 1 / 0 as y from g)", "b high", api.ErrZero}, {"select i as x from t where y = 'x' and 1 / 0 = 1", "b high", api.ErrZero}, {"select x as x from t where 1 / 0 = 1", "a high", api.ErrZero},
	} {
		for _, c := range ours() {
			d, p := ourStore(c), planOf(c, x.query)
			for level, people := range ourPeople() {
				want := api.ErrFlow
				if slices.Contains(strings.Fields(x.by), level) {
					want = x.err
				}
				for _, who := range people {
					check(t, who+": "+x.query, askedTold(d, who, p), want.Error())
				}
			}
			for _, who := range strangers() {
				check(t, x.query, askedTold(d, who, p), api.ErrName.Error())
			}
		}
	}
}

// P22.3: the error hangs on rows, where it may be asked; that it may not does not.
func TestAskWithoutRows(t *testing.T) {
	for _, c := range ours() {
		d := store.New(c)
		for _, text := range []string{"select i / 0 as x from t", "select 7 / 0 as x from h visible", "select i as x from t", "select n as x, count(*) as y from m visible group by n"} {
			check(t, text, askedTold(d, "ann", planOf(c, text)), "")
		}
		for _, text := range []string{"select x as x from t", "select i as x from h join t on i = 1", "select 1 as x from (select 7 / x as x from t) as q"} {
			check(t, text, askedTold(d, "ann", planOf(c, text)), api.ErrFlow.Error())
			check(t, text, askedTold(d, "zoe", planOf(c, text)), "")
		}
		check(t, "count", askedTold(d, "ann", planOf(c, "select count(*) as x, max(i) as y, sum(i) as z from t")), "0 null null")
		check(t, "scalar", askedTold(d, "ann", planOf(c, "select (select i as i from t) as x")), "null")
	}
}

// P22.3: too many rows are an error of the plan, too.
func TestAskTooMany(t *testing.T) {
	for _, c := range two("table t rows low (a int low, b int high); principal down low; principal up high;") {
		d := store.New(c)
		for i := range 30 {
			d.Add(0, one(val(fmt.Sprint(i)), val("1")))
		}
		for _, x := range []struct{ query, down, up string }{
			{"select t.a as x from t join t as u on true", api.ErrRows.Error(), api.ErrRows.Error()}, {"select t.b as x from t join t as u on true", api.ErrFlow.Error(), api.ErrRows.Error()}, {"select count(*) as x from t join t as u on t.a = u.a", "30", "30"},
		} {
			p := planOf(c, x.query)
			check(t, x.query, askedTold(d, "down", p), x.down)
			check(t, x.query, askedTold(d, "up", p), x.up)
			check(t, x.query, askedTold(d, "none", p), api.ErrName.Error())
		}
	}
}

// P22.3: what is answered follows the rows as they come and go, and whether it is does not.
func TestAskLater(t *testing.T) {
	for _, c := range ours() {
		d := store.New(c)
		low, high := planOf(c, "select k as x from h visible"), planOf(c, "select k as x from h")
		for i, want := range []string{"", "1", "1", "1; 2"} {
			check(t, i, askedTold(d, "ann", low), want)
			check(t, i, askedTold(d, "ann", high), api.ErrFlow.Error())
			check(t, i, askedTold(d, "zoe", high), rowsTold(numbered(i, func(n int) []api.Value { return one(val(one("1", "3", "2", "4")[n])) })))
			d.Add(2, rowsOf(one("1 false 'p'", "3 true 'q'", "2 null 'r'", "4 true 's'")[i])[0])
		}
		copied := d.Copy()
		copied.Put(2, nil)
		check(t, "a copy", askedTold(copied, "zoe", high), "")
		check(t, "not the copy", askedTold(d, "zoe", high), "1; 3; 2; 4")
	}
}

// Ask and May tell the same of whether it may be asked.
func TestAskAsMay(t *testing.T) {
	for _, c := range ours() {
		d := ourStore(c)
		for _, x := range asked() {
			p := planOf(c, x.query)
			for _, who := range append(strangers(), "ann", "bob", "cyd", "zoe") {
				may := audit.May(c, who, p)
				if rows, err := audit.Ask(d, who, p); may != api.OK && (err != may || len(rows) > 0) {
					t.Errorf("%s: %s: %v %v, not %v", who, x.query, rows, err, may)
				}
			}
		}
	}
}

// What README.md tells.
func TestReadme(t *testing.T) {
	c := catalogOf("levels low, high; order low < high; channel out low; channel log high;" +
		"table t rows low (a int low, b int high) hide high when a < 0; principal ann low; principal bob high;")
	check(t, "Reads", grantsTold(audit.Reads(c, "ann")), "t.a")
	check(t, "Hears", namesTold(audit.Hears(c, "bob")), "out log")
	check(t, "Who", namesTold(audit.Who(c, 1)), "bob")
	checkErr(t, "visible", audit.May(c, "ann", planOf(c, "select a as x from t visible")), api.OK)
	checkErr(t, "all", audit.May(c, "ann", planOf(c, "select a as x from t")), api.ErrFlow)
	checkErr(t, "eve", audit.May(c, "eve", planOf(c, "select a as x from t")), api.ErrName)
	d := storeOf(c, "1 5; -1 0")
	check(t, "visible", askedTold(d, "ann", planOf(c, "select a as x from t visible")), "1")
	check(t, "ann", askedTold(d, "ann", planOf(c, "select 7 / b as x from t")), api.ErrFlow.Error())
	check(t, "bob", askedTold(d, "bob", planOf(c, "select 7 / b as x from t")), api.ErrZero.Error())
}
