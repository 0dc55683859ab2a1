package store_test

import (
	"strconv"
	"testing"

	"cordon/api"
	"cordon/store"
)

// P12.2

func TestExample(t *testing.T) {
	d := fresh(t, example)
	checkErr(t, "the first", d.Add(0, row(1)), api.OK)
	checkErr(t, "the second", d.Add(0, row(1)), api.ErrKey)
	checkErr(t, "one that is not hidden", d.Add(0, row(2)), api.OK)
	checkErr(t, "once more", d.Add(0, row(2)), api.ErrKey)
	checkRows(t, "all", d.Rows(0), ones(1, 2))
	checkRows(t, "visible", d.Visible(0), ones(2))
}

func TestNew(t *testing.T) {
	if store.New(nil) != nil {
		t.Error("one without a catalog")
	}
	for _, text := range []string{"levels low;", example, several} {
		c := catalog(t, text)
		d := store.New(c)
		if d.Catalog() != c {
			t.Error("another catalog")
		}
		for i := range c.Tables() {
			if len(d.Rows(i)) != 0 || len(d.Visible(i)) != 0 {
				t.Errorf("table %d has rows", i)
			}
		}
	}
}

func TestPut(t *testing.T) {
	d := full(t)
	others := [][]rowOf{
		list(row(9, nil, nil)), list(row(1, nil, nil, 1), row(2, nil, nil, 1)), list(row(5, true)), ones(nil, nil, -5), ones("z", "y", "x", "w"),
	}
	for i, l := range others {
		checkErr(t, "put", d.Put(i, l), api.OK)
		for j := range others {
			want := full(t).Rows(j)
			if j <= i {
				want = others[j]
			}
			checkRows(t, "rows of "+strconv.Itoa(j), d.Rows(j), want)
		}
	}
	for i := range others {
		checkErr(t, "its own rows", d.Put(i, d.Rows(i)), api.OK)
		checkRows(t, "its own rows", d.Rows(i), others[i])
	}
}

func TestPutNoRows(t *testing.T) {
	for _, none := range [][]rowOf{nil, {}} {
		d := full(t)
		for i := range beyond {
			checkErr(t, "put", d.Put(i, none), api.OK)
			if len(d.Rows(i)) != 0 || len(d.Visible(i)) != 0 {
				t.Errorf("table %d has rows", i)
			}
			checkErr(t, "put again", d.Put(i, none), api.OK)
		}
		if !d.Same(store.New(d.Catalog())) {
			t.Error("not as a new one")
		}
	}
}

// limits are schemas of one table with a key that hides what is below 0, and how many rows it may have.
func limits() map[string]int {
	text := levels + "table t rows low (a int low) key (a) hide high when a < 0; "
	return map[string]int{text: api.MaxRows, text + "limit 0;": api.MaxRows, text + "limit 1;": 1, text + "limit 3;": 3, text + "limit 99;": 99, text + "limit 100;": 100}
}

func TestPutLimit(t *testing.T) {
	for text, n := range limits() {
		for _, from := range []int{1, -n, -n / 2} { // none, all and some hidden
			d := fresh(t, text)
			checkErr(t, "one fewer", d.Put(0, upTo(from, from+n-2)), api.OK)
			checkErr(t, "as many", d.Put(0, upTo(from, from+n-1)), api.OK)
			checkRows(t, "as many", d.Rows(0), upTo(from, from+n-1))
			for _, more := range []int{n + 1, n + 2, 2*n + 1, 1000} {
				refuses(t, "more", d, api.ErrRows, func() api.Errno { return d.Put(0, upTo(from, from+more-1)) })
			}
		}
	}
}

// Of rows that do not fit, are too many and collide, the first of these is told, however far behind it stands.
func TestPutOrderOfErrors(t *testing.T) {
	d := fresh(t, levels+"table t rows low (a int low) key (a); limit 3;")
	checkErr(t, "put", d.Put(0, ones(7, 8)), api.OK)
	for _, c := range []struct {
		name string
		rows []rowOf
		want api.Errno
	}{
		{"the first does not fit", ones("a", 1, 2), api.ErrType},
		{"the last does not fit", ones(1, 2, nil), api.ErrNull},
		{"two do not fit", ones(1, nil, "a"), api.ErrNull},
		{"two do not fit, the other way round", ones(1, "a", nil), api.ErrType},
		{"too short ahead of not right", list(row(), row(api.Value{Type: 9})), api.ErrShape},
		{"not right ahead of too short", list(row(api.Value{Type: 9}), row()), api.ErrArg},
		{"too long a text ahead of the type", ones(long+"x", "a"), api.ErrMany},
		{"collide, and one behind does not fit", ones(1, 1, "a"), api.ErrType},
		{"too many, and the last does not fit", ones(1, 2, 3, nil), api.ErrNull},
		{"too many, collide, and the last does not fit", ones(1, 1, 2, 3, 4, "a"), api.ErrType},
		{"too many that collide", ones(1, 1, 2, 3), api.ErrRows},
		{"too many, all the same", ones(1, 1, 1, 1), api.ErrRows},
		{"collide", ones(1, 2, 1), api.ErrKey},
		{"collide, and those that are there are others", ones(7, 8, 8), api.ErrKey},
	} {
		refuses(t, c.name, d, c.want, func() api.Errno { return d.Put(0, c.rows) })
		for _, n := range noTables(1) {
			refuses(t, "no table", d, api.ErrArg, func() api.Errno { return d.Put(n, c.rows) })
		}
		checkErr(t, "nil", (*store.DB)(nil).Put(0, c.rows), api.ErrNil)
	}
	checkErr(t, "as many as may be", d.Put(0, ones(7, 8, 9)), api.OK)
}

// collision is two rows of a table of several, and whether they collide.
type collision struct {
	table int
	a, b  rowOf
	is    bool
}

func collisions() []collision {
	return []collision{
		{keyed, row(1, nil, nil), row(1, nil, nil), true},
		{keyed, row(1, nil, "a"), row(1, false, "b"), true},
		{keyed, row(1, true, "a"), row(1, true, "b"), true},
		{keyed, row(1, true, "a"), row(1, false, "a"), false},
		{keyed, row(1, true, nil), row(1, nil, nil), false},
		{keyed, row(1, nil, nil), row(2, nil, nil), false},
		{keyed, row(1, true, nil), row(2, true, nil), false},
		{some, row(1, "y", nil, 1), row(1, nil, nil, 2), true},
		{some, row(1, "x", nil, 1), row(1, "x", nil, 2), true},
		{some, row(1, "x", true, 1), row(1, "y", true, 1), false},
		{some, row(1, "y", false, 1), row(1, "y", true, 1), false},
		{some, row(1, "y", false, 1), row(1, "y", nil, 1), false},
		{some, row(1, "y", true, 1), row(2, "y", true, 1), false},
		{whole, row(1, true), row(1, true), true},
		{whole, row(nil, nil), row(nil, nil), true},
		{whole, row(nil, true), row(nil, nil), false},
		{whole, row(nil, true), row(1, true), false},
		{whole, row(0, false), row(1, false), false},
		{whole, row(0, false), row(nil, false), false},
		{free, row(1), row(1), false},
		{free, row(-1), row(-1), false},
		{free, row(nil), row(nil), false},
		{open, row("a"), row("a"), true},
		{open, row(""), row(""), true},
		{open, row(long), row(long), true},
		{open, row(long), row(long[1:]), false},
		{open, row("a"), row("a\x00"), false},
		{open, row(""), row("\x00"), false},
		{open, row("\x00"), row("\x00\x00"), false},
	}
}

// between are rows of a table that stand between others, and collide with none of collisions.
func between(table int) []rowOf {
	var out []rowOf
	for n := 100; n < 120; n++ {
		out = append(out, [...]rowOf{keyed: row(n, n%2 == 0, nil), some: row(n, "x", nil, 1), whole: row(n, true), free: row(n), open: row(strconv.Itoa(n))}[table])
	}
	return out
}

func TestCollide(t *testing.T) {
	for _, c := range collisions() {
		want := api.OK
		if c.is {
			want = api.ErrKey
		}
		name := told(c.a, c.b)
		for _, pair := range [][2]rowOf{{c.a, c.b}, {c.b, c.a}} {
			a, b := pair[0], pair[1]
			checkErr(t, name+", put", full(t).Put(c.table, list(a, b)), want)
			apart := append(append(list(a), between(c.table)...), b)
			checkErr(t, name+", put far apart", full(t).Put(c.table, apart), want)
			checkErr(t, name+", put last", full(t).Put(c.table, append(between(c.table), a, b)), want)
			d := fresh(t, several)
			checkErr(t, name+", the first", d.Add(c.table, a), api.OK)
			e := d.Copy()
			checkErr(t, name+", add", d.Add(c.table, b), want)
			for _, r := range between(c.table) {
				checkErr(t, name+", between", e.Add(c.table, r), api.OK)
			}
			checkErr(t, name+", add far apart", e.Add(c.table, b), want)
		}
	}
}

// Tables are apart: a key of one is free in all others.
func TestKeysOfOtherTables(t *testing.T) {
	d := fresh(t, levels+"table t rows low (a int low) key (a); table u rows low (a int low) key (a);")
	checkErr(t, "t", d.Add(0, row(1)), api.OK)
	checkErr(t, "u", d.Add(1, row(1)), api.OK)
	checkErr(t, "t again", d.Add(0, row(1)), api.ErrKey)
	checkErr(t, "put", d.Put(0, ones(2)), api.OK)
	checkErr(t, "u again", d.Add(1, row(1)), api.ErrKey)
	checkErr(t, "t, as its key is free", d.Add(0, row(1)), api.OK)
}

// What Put takes away is free, what it lays is not; what it is refused is free, and what was there is not.
func TestKeysAfterPut(t *testing.T) {
	d := fresh(t, example)
	checkErr(t, "put", d.Put(0, ones(1, 2)), api.OK)
	checkErr(t, "put others", d.Put(0, ones(2, 3)), api.OK)
	checkErr(t, "one that is gone", d.Add(0, row(1)), api.OK)
	for n := 1; n <= 3; n++ {
		checkErr(t, "one that is there", d.Add(0, row(n)), api.ErrKey)
	}
	checkErr(t, "refused", d.Put(0, ones(4, 5, 4)), api.ErrKey)
	checkErr(t, "refused", d.Put(0, ones(4, 5, nil)), api.ErrNull)
	checkErr(t, "refused", d.Put(0, upTo(4, 500)), api.ErrRows)
	for n := 1; n <= 3; n++ {
		checkErr(t, "one that is there still", d.Add(0, row(n)), api.ErrKey)
	}
	checkErr(t, "one that was refused", d.Add(0, row(5)), api.OK)
	checkErr(t, "one that was refused", d.Add(0, row(4)), api.OK)
	checkRows(t, "all", d.Rows(0), ones(2, 3, 1, 5, 4))
}

func TestAdd(t *testing.T) {
	d := full(t)
	for i, r := range []rowOf{row(4, nil, nil), row(9, nil, nil, 9), row(9, true), row(-9), row("9")} {
		want := append(d.Rows(i), r)
		checkErr(t, "add", d.Add(i, r), api.OK)
		checkRows(t, "behind all", d.Rows(i), want)
		for j := range beyond {
			if j > i {
				checkRows(t, "the others", d.Rows(j), full(t).Rows(j))
			}
		}
	}
}

func TestAddErrors(t *testing.T) {
	d := full(t)
	for _, c := range []struct {
		table int
		row   rowOf
		want  api.Errno
	}{
		{keyed, row(1, true), api.ErrShape}, {keyed, row(1, true, "a", 1), api.ErrShape}, {keyed, nil, api.ErrShape},
		{keyed, row(nil, true, "a"), api.ErrNull}, {keyed, row("1", true, "a"), api.ErrType}, {keyed, row(1, 1, "a"), api.ErrType},
		{keyed, row(1, true, long+"x"), api.ErrMany}, {keyed, row(1, true, api.Value{Type: 9}), api.ErrArg}, {keyed, row(1, true, 1), api.ErrType},
		{keyed, row(1, true, "c"), api.ErrKey}, {keyed, row(2, false, "c"), api.ErrKey}, {keyed, row(3, true, nil), api.ErrKey},
		{some, row(1, "z", true, 7), api.ErrKey}, {some, row(1, "x", nil, nil), api.ErrNull}, {some, row(1, nil, nil, 0), api.ErrKey},
		{whole, row(nil, nil), api.ErrKey}, {whole, row(true, nil), api.ErrType}, {free, row(""), api.ErrType}, {open, row(nil), api.ErrNull}, {open, row(""), api.ErrKey},
	} {
		refuses(t, told(c.row), d, c.want, func() api.Errno { return d.Add(c.table, c.row) })
		for _, n := range noTables(beyond) {
			refuses(t, "no table", d, api.ErrArg, func() api.Errno { return d.Add(n, c.row) })
		}
		checkErr(t, "nil", (*store.DB)(nil).Add(c.table, c.row), api.ErrNil)
		checkErr(t, "one that no call made", new(store.DB).Add(c.table, c.row), api.ErrNil)
	}
}

// At the limit what does not fit is told first, then what collides, and then that there is no room.
func TestAddLimit(t *testing.T) {
	for text, n := range limits() {
		for _, from := range []int{1, -n, -n / 2} {
			d := fresh(t, text)
			for i := range n {
				checkErr(t, "room", d.Add(0, row(from+i)), api.OK)
			}
			checkRows(t, "all", d.Rows(0), upTo(from, from+n-1))
			for range 2 {
				refuses(t, "no room", d, api.ErrRows, func() api.Errno { return d.Add(0, row(from+n)) })
				refuses(t, "no room, hidden", d, api.ErrRows, func() api.Errno { return d.Add(0, row(-1000)) })
				refuses(t, "collides with the first", d, api.ErrKey, func() api.Errno { return d.Add(0, row(from)) })
				refuses(t, "collides with the last", d, api.ErrKey, func() api.Errno { return d.Add(0, row(from+n-1)) })
				refuses(t, "does not fit", d, api.ErrNull, func() api.Errno { return d.Add(0, row(nil)) })
			}
			checkErr(t, "fewer", d.Put(0, d.Rows(0)[1:]), api.OK)
			checkErr(t, "room again", d.Add(0, row(from+n)), api.OK)
			checkErr(t, "and none", d.Add(0, row(from)), api.ErrRows)
		}
	}
	d := fresh(t, levels+"table t rows low (a int low); limit 2;")
	checkErr(t, "without a key", d.Put(0, ones(1, 1)), api.OK)
	refuses(t, "without a key", d, api.ErrRows, func() api.Errno { return d.Add(0, row(1)) })
}
