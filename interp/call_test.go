package interp_test

import (
	"fmt"
	"strings"
	"testing"
)

func TestCall(t *testing.T) {
	runs(t,
		"proc p() { print out 1; } call p(); call p();", "1 1 OK",
		"proc p(a int, b text, c bool) { print out :c; print out :b; print out :a; } call p(1 + 2, 'x' || 'y', 1 = 2);", "false 'xy' 3 OK",
		"proc p(a int) { print out :a; } call p(null); call p((select max(a) as m from t));", "null 3 OK",
		"proc p(a int) { set a = :a + 1; print out :a; } call p(1); call p(1);", "2 2 OK",
		"proc p(a int, b int) { print out :a; print out :b; } proc q(b int, a int) { call p(:a, :b); } call q(1, 2);", "2 1 OK",
		// a procedure does what it does to tables, and what was told, for all
		"proc p() { insert into o values (9); print log 1; } print out 0; call p(); print out (select count(*) as n from o); call p();", "0 1:1 2 1:1 OK o (8) (9) (9)",
		// one that stands behind, and one another
		"proc p(n int) { print out :n; if :n > 0 { call q(:n - 1); } } proc q(n int) { print log :n; if :n > 0 { call p(:n - 1); } } call p(3);", "3 1:2 1 1:0 OK",
		// what stands behind a call is done, in the frame of who called
		"var x int; proc p(x int) { if :x > 0 { call p(:x - 1); print out :x; } } set x = 7; call p(2); print out :x;", "1 2 7 OK",
		// in all blocks
		"var x int; proc p(n int) { print out :n; } for x in select a as a from t { call p(:x); } while :x < 5 { set x = :x + 1; call p(:x); } if true { call p(0); } try { call p(8); raise; } catch { call p(9); }", "1 2 3 4 5 0 8 9 OK",
	)
}

// Several expressions, of which a later one has an error: those ahead are done, the procedure is not.
func TestCallWithErrors(t *testing.T) {
	runs(t,
		"proc p(a int, b int) { print out 1; } call p(1, 1 / 0);", "ErrZero",
		"proc p(a int, b int) { print out 1; } call p("+over+", 1 / 0);", "ErrOver",
		"proc p(a int, b int) { print out 1; } call p(1 / 0, "+over+");", "ErrZero",
		"proc p(a int, b int, c int) { print out 1; } try { call p(1, "+single+", 1 / 0); } catch { print out 2; }", "2 OK",
		"proc p(a int, b int, c int) { print out 1; } try { call p(1, 2, "+rows+"); } catch { print out 2; }", "ErrRows",
		"proc p(a int, b int, c int) { print out 1; } call p("+single+", "+rows+", "+over+");", "ErrSingle",
		"proc p(a int, b int, c int) { print out 1; } call p("+rows+", "+single+", "+over+");", "ErrRows",
	)
}

// recursion is a procedure that calls itself so many times more, and tells how deep it is.
const recursion = "proc p(n int) { if :n > 1 { call p(:n - 1); } print out :n; } "

// Calls within one another: 50 of them may be, 51 not, which can't be caught.
func TestFifty(t *testing.T) {
	deep := func(n int) string {
		return strings.Join(numbered(n, func(i int) string { return fmt.Sprint(i+1, " ") }), "")
	}
	for _, n := range []int{1, 2, 49, 50} {
		check(t, n, told(t, fmt.Sprintf(recursion+"call p(%d);", n)), deep(n)+"OK")
	}
	for _, n := range []int{51, 52, 100} {
		check(t, n, told(t, fmt.Sprintf(recursion+"call p(%d);", n)), "ErrFuel")
		check(t, n, told(t, fmt.Sprintf(recursion+"print out 0; try { call p(%d); } catch { print out 1; }", n)), "0 ErrFuel")
	}
	// what the procedures do ahead of that is done
	runs(t,
		"proc p(n int) { if :n > 48 { print out :n; } call p(:n + 1); } call p(1);", "49 50 ErrFuel",
		"proc p(n int) { update o set x = :n; call p(:n + 1); } call p(1);", "ErrFuel o (50)",
		"proc p(n int) { update o set x = :n; if :n < 50 { call p(:n + 1); } } call p(1);", "OK o (50)",
	)
}

// One behind the other does not count, nor do calls that are left, by their end or by an error.
func TestCallsThatAreLeft(t *testing.T) {
	runs(t,
		"var x int; proc none() { } set x = 0; while :x < 200 { set x = :x + 1; call none(); } print out :x;", "200 OK",
		recursion+"proc q() { try { raise; } catch { } } call p(1); call q(); call p(2); call q(); call p(1); call p(2);", "1 1 2 1 1 2 OK",
		"var x int; proc fails(n int) { if :n > 1 { call fails(:n - 1); } raise; } set x = 0; while :x < 3 { set x = :x + 1; try { call fails(50); } catch { print out :x; } }", "1 2 3 OK",
		"proc q(n int) { if :n > 1 { call q(:n - 1); } } proc p(n int) { call q(50 - :n); if :n > 1 { call p(:n - 1); } print out :n; } call p(2); call q(50); call p(1);", "ErrFuel",
		"proc q(n int) { if :n > 1 { call q(:n - 1); } } proc p(n int) { call q(48); if :n > 1 { call p(:n - 1); } print out :n; } call p(2); call q(50); call p(1);", "1 2 1 OK",
	)
	calls := strings.Repeat("call none(); ", 60)
	runs(t, "proc none() { } "+calls+"print out 1;", "1 OK", "proc none() { } proc p() { "+calls+"} call p(); print out 1;", "1 OK")
}

// fifty calls p within 49 others, so that what p does is within 50 calls; the blocks between count nothing.
const fifty = "proc up(n int) { if :n > 1 { while true { for n in select :n - 1 as n { if true { call up(:n); raise; } } } } else { call p(); } } "

// The 51st call's expressions come ahead of the want of calls: their error is told, and can be caught.
func TestFiftyFirst(t *testing.T) {
	runs(t,
		fifty+"proc none(n int, m int) { print out 1; } proc p() { print out 5; call none(1, 2); } call up(49);", "5 ErrFuel",
		fifty+"proc none(n int, m int) { print out 1; } proc p() { print out 5; call none(1, 1 / 0); } call up(49);", "5 ErrZero",
		fifty+"proc none(n int, m int) { print out 1; } proc p() { print out 5; call none("+over+", 1 / 0); } call up(49);", "5 ErrOver",
		fifty+"proc none(n int, m int) { print out 1; } proc p() { print out 5; call none(1, "+rows+"); } call up(49);", "5 ErrRows",
		fifty+"proc none(n int, m int) { print out 1; } proc p() { try { call none(1, 1 / 0); } catch { print out 6; } print out 7; } call up(49);", "6 7 ErrRaise",
		fifty+"proc none(n int, m int) { print out 1; } proc p() { try { call none(1, 2); } catch { print out 6; } print out 7; } call up(49);", "ErrFuel",
		fifty+"proc none(n int, m int) { print out 1; } proc p() { call none(1, 2); } call up(48);", "1 ErrRaise",
		fifty+"proc empty() { } proc p() { call empty(); } call up(49);", "ErrFuel",
		fifty+"proc empty() { } proc p() { call empty(); print out 1; } call up(48);", "1 ErrRaise",
	)
	// its step comes ahead of its expressions
	check(t, "fuel", toldWith(t, "proc p(n int, m int) { call p(:n + 1, 1 / (50 - :n)); } call p(1, 0);", 50), "ErrFuel")
	check(t, "fuel", toldWith(t, "proc p(n int, m int) { call p(:n + 1, 1 / (50 - :n)); } call p(1, 0);", 51), "ErrZero")
}
