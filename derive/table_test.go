package derive_test

import "testing"

func TestInsert(t *testing.T) {
	b := benchOf("table n rows low (x int null low, y int null a); table w rows low (x int low, y int a); table m rows a (x int null low, y int null b);")
	b.proofs(t, "insert into n values (1, 2);", "- 1.pc=a", "- 1.pc=high", "+ 1.raise=high", "- 1.can=true", "+ 1.can=true can=true", "+ 1.can=true 1.raise=b can=true raise=b")
	b.proofs(t, "insert into n values (:l, :va);", "- l=a", "- va=high", "- 1.pc=a")
	b.proofs(t, "insert into n values (-1, 2);", "- 1.can=false can=false", "- can=false", "+ 1.raise=b raise=b", "- 1.raise=b")
	b.proofs(t, "insert into m values (1, 2);", "+ 1.pc=a", "- 1.pc=b", "- 1.pc=high")
	b.proofs(t, "insert into m values (:va, :vb);", "- va=high", "+ vb=high", "+ 1.pc=a", "- 1.pc=b")
	b.proofs(t, "insert into m values (-:va, 1);", "- 1.raise=low", "- 1.raise=low raise=low", "- 1.raise=b raise=high", "- 1.can=false can=false", "+ 1.raise=high raise=high", "+ 1.pc=a", "- va=high 1.raise=high raise=high")
	b.proofs(t, "if :va > 0 { insert into m values (1, -2); }", "- 1.b0.pc=low", "- 1.b0.raise=low", "- 1.b0.can=false", "+ 1.b0.raise=high 1.raise=high raise=high", "- 1.b0.pc=high 1.b0.raise=high 1.raise=high raise=high")
	// none may be null: what may be null raises at its level
	b.proofs(t, "insert into w values (1, 2);", "+ 1.raise=a", "- 1.can=true")
	b.proofs(t, "insert into w values (null, 2);", "- 1.can=false can=false", "+ 1.raise=a raise=a")
	b.proofs(t, "insert into w values (:l, 2);", "- 1.can=false can=false", "- l=a", "+ 1.raise=a raise=a")
	b.proofs(t, "insert into w values (1, case when :va > 0 then 1 else 2 end);", "- va=high", "+ 1.raise=low")
	b.refused(t, "insert into n values (1, case when "+quiet+" then 1 else 2 end);", "insert into n values (:va, 1);", "insert into n values (1, :vb);", "insert into n values (1, -:va);", "insert into w values (1, :va);", "insert into m values (:vb, 1);", "insert into m values (1, -:vb);", "if :va > 0 { insert into n values (1, 2); }", "if :vb > 0 { insert into m values (1, 2); }", "insert into n values (1, 2); print ca -:va; insert into n values (1, 2);")
}

func TestInsertWithKey(t *testing.T) {
	b := benchOf("table n rows low (k int null low, y int null a) key (k); table h rows low (k int null low, y int null a) key (k) hide b when k = 1;" +
		"table m rows a (k int null a, y int null high) key (k); table o rows low (x int null low) hide b when x = 1; table e rows low (k int null low) key (k) hide low when k = 1;")
	b.proofs(t, "insert into n values (1, :va);", "- 1.can=false can=false", "- can=false", "+ 1.raise=a raise=a", "- 1.raise=a", "- 1.pc=a 1.raise=a raise=a")
	// that the row collides may be of a hidden one; that does not flow to the rows
	b.proofs(t, "insert into h values (1, :va);", "- 1.raise=low", "- 1.raise=low raise=low", "- 1.raise=a raise=high", "- 1.can=false can=false raise=low", "+ 1.raise=high raise=high", "- 1.pc=b")
	b.proofs(t, "insert into h values (-1, 1);", "- 1.raise=low", "- 1.raise=low raise=low", "- 1.can=false")
	b.proofs(t, "insert into h values (1, 1); print cb 1;", "- 2.pc=low", "- 2.pc=a", "- 1.raise=high raise=high", "- 1.raise=high raise=high 2.pc=high")
	b.proofs(t, "var x int; | try { insert into h values (1, 1); } catch { set x = 1; } print out 1;", "- 1.b0.raise=low", "- 1.b0.can=false", "- 1.e0.pc=low", "- x=low", "+ 1.b0.raise=high 1.e0.pc=high x=high")
	b.proofs(t, "insert into m values (:va, :vb);", "- 1.raise=low raise=low", "+ 1.raise=high raise=high", "- va=high 1.raise=high raise=high", "+ 1.pc=a", "- 1.pc=b 1.raise=high raise=high")
	b.proofs(t, "insert into o values (1);", "+ 1.raise=low", "- 1.can=true", "+ 1.can=true can=true")
	b.proofs(t, "insert into e values (1);", "- 1.can=false can=false", "+ 1.raise=b raise=b")
	b.refused(t, "insert into n values (:va, 1);", "insert into h values (:vb, 1);", "insert into h values (1, 1); print out 1;", "insert into h values (1, -:va);")
}

func TestInsertQuery(t *testing.T) {
	b := benchOf("table n rows low (x int null low, y int null a); table w rows low (x int low, y int null a); table m rows a (x int null low, y int null b); table z rows a (x int low, y int null a); table s rows low (x int null low, y int null a);" +
		"table k rows low (k int null low, y int null a) key (k); table h rows low (k int null low) key (k) hide b when k = 1; table v rows b (k int null low) key (k) hide b when k = 1;")
	b.proofs(t, "insert into n select i as x, ia as y from t;", "- 1.pc=a", "+ 1.raise=high", "- 1.can=true", "+ 1.can=true can=true", "+ 1.can=true 1.raise=a can=true raise=a")
	b.proofs(t, "insert into n select :l as x, :va as y;", "- l=a", "- va=high", "- 1.pc=a")
	b.proofs(t, "insert into n select -i as x, 1 as y from t;", "- 1.can=false can=false", "+ 1.raise=a raise=a", "- 1.raise=a")
	b.proofs(t, "insert into m select ia as x, ib as y from t where pa;", "+ 1.pc=a", "- 1.pc=b", "+ 1.raise=low")
	b.proofs(t, "insert into m select -ia as x, 1 as y from t;", "- 1.raise=low", "- 1.raise=low raise=low", "- 1.can=false can=false", "+ 1.raise=high raise=high", "- 1.pc=b 1.raise=high raise=high")
	// none may be null
	b.proofs(t, "insert into w select i as x, ia as y from t;", "+ 1.raise=high", "- 1.can=true")
	b.proofs(t, "insert into w select x as x, 1 as y from s;", "- 1.can=false can=false", "+ 1.raise=a raise=a")
	b.proofs(t, "insert into z select x as x, 1 as y from s where y > 0;", "- 1.raise=low", "- 1.raise=low raise=low", "- 1.can=false can=false", "+ 1.pc=a")
	// Rows is in what it raises, whatever it is of
	b.proofs(t, "insert into z select -i as x, ia as y from t order by y;", "- 1.raise=low", "- 1.raise=low raise=low", "- 1.raise=b raise=high", "+ 1.raise=high raise=high")
	// with a key
	b.proofs(t, "insert into k select i as k, ia as y from t;", "- 1.can=false can=false", "- can=false", "+ 1.raise=a raise=a", "- 1.raise=a", "- 1.pc=a 1.raise=a raise=a")
	b.proofs(t, "insert into v select ib as k from t where pb;", "- 1.raise=low", "- 1.raise=low raise=low", "- 1.raise=a raise=high", "- 1.can=false can=false", "+ 1.raise=high raise=high", "+ 1.pc=b", "- 1.pc=a 1.raise=high raise=high")
	b.refused(t, "insert into n select ia as x, 1 as y from t;", "insert into n select 1 as x, ib as y from t;", "insert into n select 1 as x, 2 as y from t where pa;", "insert into n select 1 as x, -ia as y from t;", "insert into w select y as x, 1 as y from s;",
		"insert into k select 1 as k, 1 as y from t where pa;", "insert into h select 1 as k;", "if :va > 0 { insert into n select 1 as x, 2 as y; }", "if :va > 0 { insert into k select 1 as k, 2 as y; }")
}

func TestUpdate(t *testing.T) {
	b := benchOf("table n rows low (k int low, x int null low, y int null a, z int a) key (k); table m rows a (x int null low, y int null b);")
	b.proofs(t, "update n set x = 1;", "- 1.pc=a", "+ 1.raise=high", "- 1.can=true", "+ 1.can=true can=true", "+ 1.can=true 1.raise=b can=true raise=b")
	b.proofs(t, "update n set y = 1;", "+ 1.pc=a", "- 1.pc=b", "- 1.pc=high")
	b.proofs(t, "update n set y = 1, x = 2;", "- 1.pc=a")
	b.proofs(t, "update n set y = :va where :l > 0;", "+ 1.pc=a", "- 1.pc=b", "- va=high", "+ l=a", "- l=b", "- l=high")
	b.proofs(t, "update n set y = x, z = k;", "+ 1.pc=a", "- 1.pc=high")
	b.proofs(t, "update n set y = 1 where y > 0;", "+ 1.pc=a", "- 1.pc=b")
	// what where raises, and without its Value
	b.proofs(t, "update n set y = 1 where -y > 0;", "- 1.raise=low", "- 1.raise=low raise=low", "- 1.raise=b raise=high", "- 1.can=false can=false", "- can=false", "+ 1.pc=a", "+ 1.raise=high raise=high")
	b.proofs(t, "update n set y = 1 where -1 > 0 or y > 0;", "- 1.can=false can=false", "+ 1.raise=a raise=a", "- 1.raise=a", "- 1.pc=a", "+ 1.pc=a 1.raise=a raise=a")
	b.proofs(t, "update n set y = 1 where "+quiet+";", "- 1.raise=low", "- 1.can=false can=false")
	// what a node raises, with where's Value and its own
	b.proofs(t, "update n set x = -x;", "- 1.can=false can=false", "- 1.raise=a", "+ 1.raise=a raise=a", "- 1.pc=a 1.raise=a raise=a")
	b.proofs(t, "update n set y = -y;", "- 1.raise=low", "- 1.raise=low raise=low", "- 1.can=false can=false", "+ 1.raise=high raise=high", "+ 1.pc=a", "- 1.pc=b 1.raise=high raise=high")
	b.proofs(t, "update n set y = -1 where y > 0;", "- 1.raise=low", "- 1.raise=low raise=low", "- 1.can=false can=false")
	b.proofs(t, "update n set x = -1, y = :va;", "- 1.can=false can=false", "+ 1.raise=a raise=a", "- va=high")
	b.proofs(t, "update n set y = case when true then -1 else :va end;", "- 1.raise=low", "- 1.raise=low raise=low")
	// what may be null, where none may be
	b.proofs(t, "update n set z = k;", "+ 1.raise=high", "- 1.can=true")
	b.proofs(t, "update n set z = x;", "- 1.can=false can=false", "+ 1.raise=a raise=a")
	b.proofs(t, "update n set z = y;", "- 1.raise=low", "- 1.raise=low raise=low", "- 1.can=false can=false", "+ 1.raise=high raise=high")
	b.proofs(t, "update n set z = null where y > 0;", "- 1.raise=low", "- 1.raise=low raise=low", "- 1.can=false can=false")
	// the level of a column has that of its table's rows in it
	b.proofs(t, "update m set x = 1, y = 2;", "+ 1.pc=a", "- 1.pc=b")
	b.proofs(t, "update m set y = -1;", "- 1.raise=low", "- 1.raise=low raise=low", "+ 1.raise=high raise=high", "- 1.pc=high", "+ 1.pc=high 1.raise=high raise=high")
	b.refused(t, "update n set x = 1 where "+quiet+";", "update n set x = case when "+quiet+" then 1 else 2 end;", "update n set x = :va;", "update n set x = y;", "update n set x = 1 where y > 0;", "update n set x = 1 where -y > 0;", "update n set y = -y, x = 1;", "update n set z = y, x = 1;", "update n set y = :vb;", "update m set x = y;", "update m set x = -1, y = -y;", "if :va > 0 { update n set x = 1, y = 1; }")
}

// A table that hides rows: what an update raises may be of a hidden one.
func TestUpdateHidden(t *testing.T) {
	b := benchOf("table h rows low (k int low, x int null low, y int null high, z int b) key (k) hide b when k = 1; table o rows low (k int low, y int null a) hide a when k = 1;")
	b.proofs(t, "update h set x = 1 where x > 0;", "- 1.pc=b", "+ 1.raise=low")
	b.proofs(t, "update h set y = -x;", "- 1.raise=low", "- 1.raise=low raise=low", "- 1.raise=a raise=high", "+ 1.raise=high raise=high", "+ 1.pc=b", "- 1.pc=a")
	b.proofs(t, "update h set y = 1 where -1 > 0;", "- 1.raise=low", "- 1.raise=low raise=low", "- 1.can=false can=false")
	b.proofs(t, "update h set z = null;", "- 1.raise=low", "- 1.raise=low raise=low", "- 1.can=false can=false")
	b.proofs(t, "var x int; | update o set y = -1; set x = 1;", "- 1.raise=low", "- 2.pc=low", "- x=low", "- 1.raise=low 2.pc=low raise=low x=low")
	b.refused(t, "update h set x = -x;", "update h set x = 1 where -1 > 0;", "update h set z = null, x = 1;", "update o set y = -1; print out 1;")
}

func TestDelete(t *testing.T) {
	b := benchOf("table n rows low (x int null low, y int null a) key (x); table h rows low (k int low, x int null low) key (k) hide b when k = 1; table m rows a (x int null low, y int null b); table v rows a (k int low) hide a when k = 1;")
	b.proofs(t, "delete from n;", "- 1.pc=a", "+ 1.raise=high", "- 1.can=true", "+ 1.can=true can=true", "+ 1.can=true 1.raise=b can=true raise=b")
	b.proofs(t, "delete from n where x > :l;", "- l=a", "- 1.pc=a")
	b.proofs(t, "delete from n where -x > 0;", "- 1.can=false can=false", "- can=false", "- 1.raise=a", "+ 1.raise=a raise=a", "- 1.pc=a 1.raise=a raise=a")
	b.proofs(t, "delete from m where x > 0;", "+ 1.pc=a", "- 1.pc=b", "+ 1.raise=low")
	b.proofs(t, "delete from m where -1 > 0;", "- 1.raise=low", "- 1.raise=low raise=low", "- 1.raise=b raise=high", "- 1.can=false can=false", "+ 1.raise=high raise=high", "+ 1.pc=a")
	b.proofs(t, "delete from h where x > 0;", "- 1.pc=b", "+ 1.raise=low")
	b.proofs(t, "delete from v where -k > 0;", "- 1.raise=low raise=low", "+ 1.pc=a", "- 1.pc=b 1.raise=high raise=high")
	b.proofs(t, "delete from m where "+quiet+";", "- 1.raise=low", "- 1.raise=low raise=low", "- 1.can=false can=false", "+ 1.raise=high raise=high")
	b.refused(t, "delete from n where "+quiet+";", "delete from n where y > 0;", "delete from n where -y > 0;", "delete from n where :va > 0;", "delete from h where -x > 0;", "delete from m where y > 0;", "if :va > 0 { delete from n; }", "if :vb > 0 { delete from m; }")
}
