package flow_test

import (
	"fmt"
	"strings"
	"testing"

	"cordon/api"
	"cordon/flow"
)

// short holds scripts to their verdicts, in which each Diag is told as its Why alone.
func (b bench) short(t *testing.T, texts ...string) {
	t.Helper()
	for i := 0; i < len(texts); i += 2 {
		for _, c := range b {
			text := withPreamble(texts[i])
			p := programOf(t, c, text)
			v := flow.Check(c, p)
			diags := v.Diags
			v.Diags = nil
			out := verdictTold(c, text, p, v)
			for _, d := range diags {
				out += " " + whys[d.Why]
			}
			check(t, text, strings.TrimSpace(out), texts[i+1])
		}
	}
}

func TestInsert(t *testing.T) {
	benchOf("table n rows low (x int null low, y int null a); table w rows low (x int low, y int a); table m rows a (x int null low, y int null b); table z rows a (x int low, y int a);").short(t,
		"insert into n values (1, 2);", "",
		"insert into n values (null, null);", "",
		"insert into n values (:l, :va);", "",
		"insert into n values (:va, :va);", "column",
		"insert into n values (1, :vb);", "column",
		"insert into n values (:va, :vb);", "column column",
		"insert into n values (-1, 1);", "[raises low]",
		"insert into n values (1, -:va);", "[raises a] rows",
		"insert into n values (-:va, :vb);", "[raises a] rows column column",
		"insert into n values (1, "+mixed+");", "[raises a] rows column",
		"if :va > 0 { insert into n values (1, 2); }", "rows",
		"if :va > 0 { insert into n values (:vb, 2); }", "rows column",
		"if :va > 0 { insert into n values (-1, 2); }", "[raises a] rows",
		// none may be null: what may be null raises at its level
		"insert into w values (1, 2);", "",
		"insert into w values (null, 2);", "[raises low]",
		"insert into w values (1, null);", "[raises low]",
		"insert into w values (:l, 2);", "[raises low]",
		"insert into w values (1, :l);", "[raises low]",
		"insert into w values (1, :va);", "[raises a] rows",
		"insert into w values (:va, 2);", "[raises a] rows column",
		"insert into w values (:l, :va);", "[raises a] rows",
		"insert into w values (-1, :va);", "[raises a] rows",
		"insert into w values (1, case when :va > 0 then 1 else 2 end);", "",
		"insert into w values (case when :va > 0 then 1 else null end, 2);", "[raises a] rows column",
		"insert into w values (1, (select ia as x from t));", "[raises a] rows",
		"insert into w values (1, 1 + 2);", "[raises low]",
		"insert into w values (1, 1 + :va);", "[raises a] rows",
		// the level of a column has that of its table's rows in it
		"insert into m values (:va, :vh);", "",
		"insert into m values (:vb, :vb);", "column",
		"insert into m values (-:va, -:va);", "[raises a]",
		"insert into m values (-:va, -:vb);", "[raises high] rows",
		"if :va > 0 { insert into m values (:va, :vb); }", "",
		"if :vb > 0 { insert into m values (1, 1); }", "rows",
		"insert into z values (:va, :va);", "[raises a]",
		"insert into z values (:va, :l); print out 1;", "[raises a] print",
	)
}

func TestInsertWithKey(t *testing.T) {
	benchOf("table n rows low (k int null low, j int null low, y int null a) key (k, j); table h rows low (k int null low, y int null a) key (k) hide b when k = 1;"+
		"table m rows a (k int low, y int null a) key (k) hide high when k = 1; table o rows low (x int null low) hide b when x = 1; table e rows low (k int null low) key (k) hide low when k = 1;").short(t,
		"insert into n values (1, 2, 3);", "[raises low]",
		"insert into n values (1, 2, :va);", "[raises low]",
		"insert into n values (1, 2, :vb);", "[raises low] column",
		"insert into n values (:va, 2, 3);", "[raises a] column",
		"insert into n values (1, :vb, 3);", "[raises b] column",
		"insert into n values (:va, :vb, 3);", "[raises high] column column",
		"insert into n values (1, 2, -:va);", "[raises a] rows",
		"if :va > 0 { insert into n values (1, 2, 3); }", "[raises a] rows",
		"insert into h values (1, :va);", "[raises b]",
		"insert into h values (:va, 1);", "[raises high] column",
		"var x int; | insert into h values (1, :va); set x = 1; print out 1; print cb 1;", "[x b, raises b] print",
		"var x int; | try { insert into h values (1, :va); } catch { set x = 1; } print out 1;", "[x b]",
		"insert into h values (-1, 1);", "[raises b]",
		"insert into m values (1, 2);", "[raises high]",
		"insert into m values (:va, 2);", "[raises high]",
		"insert into m values (:vb, 2);", "[raises high] rows column",
		"insert into o values (1);", "",
		"insert into o values (:va);", "column",
		"insert into o values (-1);", "[raises low]",
		"insert into e values (1);", "[raises low]",
	)
}

// Sheets of queries: that of t alone has Rows low.
func TestInsertQuery(t *testing.T) {
	benchOf("table n rows low (x int null low, y int null a); table w rows low (x int low, y int a); table m rows a (x int null low, y int null b); table z rows a (x int low, y int null a); table s rows low (x int null low, y int null a, z int null b);").short(t,
		"insert into n select 1 as x, 2 as y;", "",
		"insert into n select i as x, ia as y from t;", "",
		"insert into n select ia as x, ia as y from t;", "column",
		"insert into n select i as x, ib as y from t;", "column",
		"insert into n select ia as x, ib as y from t;", "column column",
		"insert into n select i as x, i as y from t where pa;", "rows",
		"insert into n select ib as x, i as y from t where pa;", "rows column",
		"insert into n select -i as x, ia as y from t;", "[raises low]",
		"insert into n select i as x, -ia as y from t;", "[raises a] rows",
		"insert into n select -ia as x, ib as y from t;", "[raises a] rows column column",
		"insert into n select :l as x, :va as y;", "",
		"if :va > 0 { insert into n select 1 as x, 2 as y; }", "rows",
		"if :va > 0 { insert into n select -1 as x, 2 as y; }", "[raises a] rows",
		// none may be null
		"insert into w select 1 as x, 2 as y;", "",
		"insert into w select i as x, ia as y from t;", "",
		"insert into w select x as x, y as y from s;", "[raises a] rows",
		"insert into w select x as x, 1 as y from s;", "[raises low]",
		"insert into w select 1 as x, y as y from s;", "[raises a] rows",
		"insert into w select x as x, i as y from s join t on true;", "[raises low]",
		"insert into w select z as x, 1 as y from s;", "[raises b] rows column",
		"insert into w select i as x, s.y as y from t left join s on true;", "[raises a] rows",
		"insert into w select count(*) as x, 1 as y from t;", "",
		"insert into w select max(i) as x, 1 as y from t;", "[raises low]",
		"insert into w select 1 as x, :va as y;", "[raises a] rows",
		// Rows is in what it raises, whatever it is of
		"insert into z select -i as x, ia as y from t order by y;", "[raises a]",
		"insert into z select distinct -i as x, ia as y from t;", "[raises a]",
		"insert into z select x as x, 1 as y from s where y > 0;", "[raises a]",
		"insert into z select i as x, 1 as y from t where pa;", "",
		"insert into z select x as x, z as y from s;", "[raises low] column",
		"insert into m select ia as x, ih as y from t;", "",
		"insert into m select ib as x, ib as y from t;", "column",
		"insert into m select i as x, i as y from t where pa;", "",
		"insert into m select i as x, i as y from t where pb;", "rows",
		"insert into m select -ia as x, 1 as y from t;", "[raises a]",
		"if :va > 0 { insert into m select ia as x, ib as y from t; }", "",
		"if :vb > 0 { insert into m select 1 as x, 1 as y; }", "rows",
	)
}

func TestInsertQueryWithKey(t *testing.T) {
	benchOf("table n rows low (k int null low, j int null low, y int null a) key (k, j); table h rows low (k int null low, y int null a) key (k) hide b when k = 1;"+
		"table m rows a (k int low, y int null a) key (k); table v rows a (k int null a, y int null a) key (k) hide high when true; table o rows low (x int null low) hide b when x = 1; table e rows low (k int null low) key (k) hide low when k = 1;").short(t,
		"insert into n select i as k, i as j, ia as y from t;", "[raises low]",
		"insert into n select i as k, i as j, ib as y from t;", "[raises low] column",
		"insert into n select ia as k, i as j, i as y from t;", "[raises a] rows column",
		"insert into n select ia as k, ib as j, i as y from t;", "[raises high] rows column column",
		"insert into n select i as k, i as j, i as y from t where pa;", "[raises a] rows",
		"insert into n select i as k, i as j, -ia as y from t;", "[raises a] rows",
		"if :va > 0 { insert into n select 1 as k, 1 as j, 1 as y; }", "[raises a] rows",
		// a row that collides with a hidden one keeps the others away
		"insert into h select i as k, ia as y from t;", "[raises b] rows",
		"insert into h select 1 as k, 1 as y;", "[raises b] rows",
		"var x int; | insert into h select 1 as k, 1 as y; set x = 1;", "[x b, raises b] rows",
		"insert into m select i as k, ia as y from t;", "[raises a]",
		"insert into m select ia as k, ia as y from t;", "[raises a]",
		"insert into m select ib as k, ia as y from t;", "[raises high] rows column",
		"insert into v select 1 as k, 1 as y;", "[raises high] rows",
		"insert into o select i as x from t;", "",
		"insert into o select -i as x from t;", "[raises low]",
		"insert into e select i as k from t;", "[raises low]",
	)
}

func TestUpdate(t *testing.T) {
	benchOf("table n rows low (k int low, x int null low, y int null a, z int a, q bool null low) key (k); table m rows a (x int null low, y int null b);").short(t,
		"update n set x = 1;", "",
		"update n set x = null;", "",
		"update n set x = :l;", "",
		"update n set x = :va;", "column",
		"update n set y = :va;", "",
		"update n set y = :vb;", "column",
		"update n set y = x, x = k;", "",
		"update n set x = y;", "column",
		"update n set x = z, y = z;", "column",
		"update n set y = 1, x = :va, q = true;", "column",
		"update n set x = :va, y = :vb, q = false;", "column column",
		"update n set q = y > 0;", "column",
		"if :va > 0 { update n set x = 1, y = 1; }", "column",
		"if :vh > 0 { update n set x = 1, y = 1, z = 1; }", "column column column",
		// where says which rows are changed
		"update n set x = 1 where x > 0;", "",
		"update n set x = 1 where y > 0;", "column",
		"update n set y = 1 where y > 0;", "",
		"update n set x = 1, y = 1 where y > 0;", "column",
		"update n set x = 1, y = 1 where :vb > 0;", "column column",
		// what where raises, without its Value
		"update n set y = 1 where -1 > 0;", "[raises low]",
		"update n set y = 1 where -y > 0;", "[raises a]",
		"update n set x = 1 where -y > 0;", "[raises a] column",
		"update n set y = 1 where -1 > 0 or y > 0;", "[raises low]",
		"update n set x = 1 where "+quiet+";", "[raises a] column",
		"update n set y = 1 where "+quiet+";", "[raises a]",
		// what a node raises, with where's Value and its own
		"update n set x = -x;", "[raises low]",
		"update n set y = -y;", "[raises a]",
		"update n set y = -y, x = 1;", "[raises a] column",
		"update n set y = -1, x = 1;", "[raises low]",
		"update n set y = -1 where y > 0;", "[raises a]",
		"update n set y = -1 where -1 > 0 or y > 0;", "[raises a]",
		"update n set y = case when true then -1 else :va end;", "[raises a]",
		"update n set y = case when "+quiet+" then 1 else 2 end;", "[raises a]",
		"update n set x = case when "+quiet+" then 1 else 2 end;", "[raises a] column",
		"update n set x = -1, y = :va;", "[raises low]",
		"update n set x = -1, y = :va where z > 0;", "[raises a] column",
		"update n set x = -1, y = -:vb;", "[raises b] column column",
		// what may be null, where none may be
		"update n set z = 1;", "",
		"update n set z = z;", "",
		"update n set z = k;", "",
		"update n set z = x;", "[raises low]",
		"update n set z = y;", "[raises a]",
		"update n set z = null;", "[raises low]",
		"update n set z = :l;", "[raises low]",
		"update n set z = :va;", "[raises a]",
		"update n set z = null where y > 0;", "[raises a]",
		"update n set z = y, x = 1;", "[raises a] column",
		"update n set z = x, y = :va;", "[raises low]",
		"update n set z = case when y > 0 then 1 else z end;", "",
		"update n set z = :vb;", "[raises b] column",
		"if :va > 0 { update n set z = null; }", "[raises a]",
		// the level of a column has that of its table's rows in it
		"update m set x = 1, y = 1;", "",
		"update m set x = :va, y = :vb;", "",
		"update m set y = x;", "",
		"update m set x = y;", "column",
		"update m set x = -1;", "[raises a]",
		"update m set y = -y;", "[raises high]",
		"update m set x = -1, y = -y;", "[raises high] column",
		"if :vb > 0 { update m set x = 1, y = 1; }", "column",
	)
}

// A table that hides rows: what an update raises may be of a hidden one.
func TestUpdateHidden(t *testing.T) {
	benchOf("table h rows low (k int low, x int null low, y int null high, z int b) key (k) hide b when k = 1; table o rows low (k int low, y int null a) hide a when k = 1;").short(t,
		"update h set x = 1;", "",
		"update h set x = 1 where x > 0;", "",
		"update h set x = -x;", "[raises b] column",
		"update h set y = -x;", "[raises b]",
		"update h set x = 1 where -1 > 0;", "[raises b] column",
		"update h set y = 1 where -1 > 0;", "[raises b]",
		"update h set z = z;", "",
		"update h set z = null;", "[raises b]",
		"update h set z = null, x = 1;", "[raises b] column",
		"update h set x = 1, z = 1, y = null;", "",
		"update o set y = -1;", "[raises a]",
		"var x int; | update o set y = -1; set x = 1;", "[x a, raises a]",
	)
}

func TestDelete(t *testing.T) {
	benchOf("table n rows low (x int null low, y int null a) key (x); table h rows low (k int low, x int null low) key (k) hide b when k = 1; table m rows a (x int null low, y int null b); table v rows a (k int low) hide high when k = 1;").short(t,
		"delete from n;", "",
		"delete from n where true;", "",
		"delete from n where x > 0;", "",
		"delete from n where y > 0;", "rows",
		"delete from n where :va > 0;", "rows",
		"delete from n where -x > 0;", "[raises low]",
		"delete from n where -y > 0;", "[raises a] rows",
		"delete from n where "+quiet+";", "[raises a] rows",
		"if :va > 0 { delete from n; }", "rows",
		"if :va > 0 { delete from n where -1 > 0; }", "[raises a] rows",
		"delete from h;", "",
		"delete from h where x > 0;", "",
		"delete from h where -x > 0;", "[raises b] rows",
		"delete from m;", "",
		"delete from m where x > 0;", "",
		"delete from m where y > 0;", "rows",
		"delete from m where -x > 0;", "[raises a]",
		"delete from m where -1 > 0;", "[raises a]",
		"if :va > 0 { delete from m where x > 0; }", "",
		"if :vb > 0 { delete from m; }", "rows",
		"delete from v where k > 0;", "",
		"delete from v where -k > 0;", "[raises high] rows",
		"delete from v where "+mixed+" > 0;", "[raises high] rows",
	)
}

// begin, commit and rollback: one Diag each, however many tables and columns there are at levels that are not above where they stand.
func TestSaved(t *testing.T) {
	benchOf("table n rows a (x int null low);").checks(t,
		"begin; commit; rollback;", "",
		"if :va > 0 { begin; } if :vb > 0 { commit; } if :vh > 0 { rollback; }", "saved: begin; saved: commit; saved: rollback",
		"begin; if :va > 0 { raise; } commit;", "[raises a]; saved: commit",
		"begin; insert into n values (1); rollback; print out 1;", "",
	)
	const order = "order low < a < high; order low < b < high;"
	stands := "var x int; for x in select i as x from s where i > 0 { %s; }"
	for _, w := range []struct {
		tables string // beside s, at whose level the statement stands
		level  string
		want   int
	}{
		{"", "low", 0}, {"", "a", 0}, {"", "high", 0},
		{"table u rows a (x int low);", "low", 0}, {"table u rows a (x int low);", "a", 0}, {"table u rows a (x int low);", "b", 1}, {"table u rows a (x int low);", "high", 1},
		{"table u rows a (x int b, y int low, z int high);", "a", 0}, {"table u rows a (x int b);", "b", 1}, {"table u rows high (x int low, y int a);", "b", 0}, {"table u rows high (x int low, y int b);", "high", 0},
		{"table u rows a (x int low); table v rows b (x int low);", "low", 0}, {"table u rows a (x int low); table v rows b (x int low);", "a", 1}, {"table u rows a (x int low); table v rows b (x int low);", "b", 1}, {"table u rows a (x int low); table v rows b (x int low);", "high", 1},
		{"table u rows high (x int low); table v rows low (x int high, y int high);", "high", 1}, {"table u rows low (x int low, y int low) hide high when x = 1;", "a", 1}, {"table u rows low (x int low);", "low", 0},
	} {
		for _, levels := range orders {
			c := catalogOf(levels + order + strings.ReplaceAll("table s rows L (i int L);", "L", w.level) + w.tables)
			for _, word := range []string{"begin", "commit", "rollback"} {
				text := fmt.Sprintf(stands, word)
				v := flow.Check(c, programOf(t, c, text))
				check(t, w, len(v.Diags), w.want)
				check(t, w, v.Can[0], false)
				for _, d := range v.Diags {
					check(t, w, diagTold(text, d), "saved: "+word)
				}
			}
		}
	}
	none := catalogOf("levels high, low; order low < high; channel out low;")
	check(t, "without tables", len(flow.Check(none, programOf(t, none, "begin; begin; rollback; commit; raise; begin;")).Diags), 0)
}

// All that may not flow, in order: procedures as they stand, the script's own last; statements as they stand, Body ahead of Else; of one statement rows ahead of columns.
func TestOrder(t *testing.T) {
	b := benchOf("table n rows low (x int null low, y int null low);")
	b.checks(t,
		"proc p(n int) { print out :n; input n; } proc q(n int) { insert into n values (:n, 1); } | print cb :va; if :va > 0 { call q(:vb); } call p(:va); delete from n where :vb > 0;",
		"p[n a]; q[at a, n high]; print: print out :n; rows: insert into n values (:n, 1); column: insert into n values (:n, 1); print: print cb :va; rows: delete from n where :vb > 0",
		"if :va > 0 { print out 1; if true { begin; } else { commit; } print out 2; } else { print out 3; } print out :va;",
		"print: print out 1; saved: begin; saved: commit; print: print out 2; print: print out 3; print: print out :va",
		"try { while :va > 0 { input l; } for l in select ia as x from t { print out :l; } } catch { print out :l; } print out :l;",
		"[l a]; loops a; input: input l; print: print out :l; print: print out :l; print: print out :l",
		"if :va > 0 { insert into n values (:vb, -1); update n set x = 1, y = 2; insert into n select ib as x, 1 as y from t; }",
		"[raises a]; rows: insert into n values (:vb, -1); column: insert into n values (:vb, -1); column: update n set x = 1, y = 2; column: update n set x = 1, y = 2; rows: insert into n select ib as x, 1 as y from t; column: insert into n select ib as x, 1 as y from t",
	)
	c := b[1]
	text := withPreamble("print out :va; print out :va;")
	first := strings.Index(text, "print")
	v := flow.Check(c, programOf(t, c, text))
	check(t, "places", fmt.Sprint(v.Diags), fmt.Sprint([]api.Diag{{At: first, Why: api.WhyPrint}, {At: first + len("print out :va; "), Why: api.WhyPrint}}))
}
