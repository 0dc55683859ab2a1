package lattice_test

import (
	"slices"
	"strconv"
	"strings"
	"testing"

	"cordon/api"
	"cordon/lattice"
)

func names(ns ...string) []string { return ns }

// edges are pairs told as "low<high", with commas between.
func edges(s string) []api.Pair {
	var out []api.Pair
	for _, e := range strings.Split(s, ",") {
		if low, high, ok := strings.Cut(e, "<"); ok {
			out = append(out, api.Pair{Low: low, High: high})
		}
	}
	return out
}

// numbered are n names that are all unlike.
func numbered(n int) []string {
	var out []string
	for i := range n {
		out = append(out, "n"+strconv.Itoa(i))
	}
	return out
}

// chain are edges from each level to the next one.
func chain(levels []string) []api.Pair {
	var out []api.Pair
	for i := 1; i < len(levels); i++ {
		out = append(out, api.Pair{Low: levels[i-1], High: levels[i]})
	}
	return out
}

// cube is the lattice of the sets of four things: MaxLevels levels, of which two stand as their bits do.
func cube() ([]string, []api.Pair) {
	levels := numbered(api.MaxLevels)
	var out []api.Pair
	for a := range levels {
		for bit := 1; bit < api.MaxLevels; bit *= 2 {
			if a&bit == 0 {
				out = append(out, api.Pair{Low: levels[a], High: levels[a|bit]})
			}
		}
	}
	return levels, out
}

func made(t *testing.T, levels []string, es []api.Pair) *lattice.Lattice {
	t.Helper()
	l, err := lattice.New(levels, es)
	if err != api.OK || l == nil {
		t.Fatalf("New(%q, %q) = %v, %v", levels, es, l, err)
	}
	return l
}

func refused(t *testing.T, what string, levels []string, es []api.Pair, want api.Errno) {
	t.Helper()
	if l, err := lattice.New(levels, es); l != nil || err != want {
		t.Errorf("%s: New answers %v, %v, not nil, %v", what, l, err, want)
	}
}

const example = "low<a,low<b,a<high,b<high"

func diamond(t *testing.T) *lattice.Lattice {
	t.Helper()
	return made(t, names("low", "a", "b", "high"), edges(example))
}

func TestDiamond(t *testing.T) {
	l := diamond(t)
	leq := [4]string{"1111", "0101", "0011", "0001"}
	join := [4][4]int{{0, 1, 2, 3}, {1, 1, 3, 3}, {2, 3, 2, 3}, {3, 3, 3, 3}}
	meet := [4][4]int{{0, 0, 0, 0}, {0, 1, 0, 1}, {0, 0, 2, 2}, {0, 1, 2, 3}}
	above := [4][]int{{0, 1, 2, 3}, {1, 3}, {2, 3}, {3}}
	for a := range 4 {
		for b := range 4 {
			if got := l.Leq(a, b); got != (leq[a][b] == '1') {
				t.Errorf("Leq(%d, %d) = %v", a, b, got)
			}
			if got := l.Join(a, b); got != join[a][b] {
				t.Errorf("Join(%d, %d) = %d, not %d", a, b, got, join[a][b])
			}
			if got := l.Meet(a, b); got != meet[a][b] {
				t.Errorf("Meet(%d, %d) = %d, not %d", a, b, got, meet[a][b])
			}
		}
		if got := l.Above(a); !slices.Equal(got, above[a]) {
			t.Errorf("Above(%d) = %v, not %v", a, got, above[a])
		}
	}
	if l.Bottom() != 0 || l.Top() != 3 {
		t.Errorf("Bottom, Top = %d, %d", l.Bottom(), l.Top())
	}
}

func TestDiamondWithoutHigh(t *testing.T) {
	refused(t, "without high", names("low", "a", "b"), edges("low<a,low<b"), api.ErrLevel)
}

func TestOneLevel(t *testing.T) {
	for _, es := range [][]api.Pair{nil, {}, edges("one<one"), edges("one<one,one<one")} {
		l := made(t, names("one"), es)
		if !slices.Equal(l.Levels(), names("one")) || !l.Leq(0, 0) || l.Join(0, 0) != 0 || l.Meet(0, 0) != 0 || l.Bottom() != 0 || l.Top() != 0 || !slices.Equal(l.Above(0), []int{0}) {
			t.Errorf("one level with edges %v is no lattice of itself", es)
		}
	}
}

func TestChain(t *testing.T) {
	for n := 1; n <= api.MaxLevels; n++ {
		l := made(t, numbered(n), chain(numbered(n)))
		for a := range n {
			for b := range n {
				if l.Leq(a, b) != (a <= b) || l.Join(a, b) != max(a, b) || l.Meet(a, b) != min(a, b) {
					t.Errorf("a chain of %d: %d and %d: %v, %d, %d", n, a, b, l.Leq(a, b), l.Join(a, b), l.Meet(a, b))
				}
			}
			if above := l.Above(a); len(above) != n-a || above[0] != a || above[n-a-1] != n-1 {
				t.Errorf("a chain of %d: Above(%d) = %v", n, a, above)
			}
		}
		if l.Bottom() != 0 || l.Top() != n-1 {
			t.Errorf("a chain of %d: Bottom, Top = %d, %d", n, l.Bottom(), l.Top())
		}
	}
}

// Levels are places in the list of names, wherever they stand in the lattice.
func TestLevelsInAnyOrder(t *testing.T) {
	l := made(t, names("high", "b", "low", "a"), edges(example))
	if l.Bottom() != 2 || l.Top() != 0 || l.Join(1, 3) != 0 || l.Meet(3, 1) != 2 {
		t.Errorf("Bottom, Top, Join, Meet = %d, %d, %d, %d", l.Bottom(), l.Top(), l.Join(1, 3), l.Meet(3, 1))
	}
	if got := l.Above(2); !slices.Equal(got, []int{0, 1, 2, 3}) {
		t.Errorf("Above(low) = %v: not rising", got)
	}
	if got := l.Above(3); !slices.Equal(got, []int{0, 3}) {
		t.Errorf("Above(a) = %v: not rising", got)
	}
}

// The least one above both need not be next to them, and no one level need stand between.
func TestPentagon(t *testing.T) {
	l := made(t, names("0", "x", "y", "z", "1"), edges("0<x,x<y,y<1,0<z,z<1"))
	if l.Join(1, 3) != 4 || l.Join(2, 3) != 4 || l.Meet(2, 3) != 0 || l.Meet(1, 2) != 1 || l.Join(1, 2) != 2 {
		t.Error("a pentagon has other joins and meets")
	}
}

func TestLevelsAndFind(t *testing.T) {
	given := names("z", "\x00", "ä", "a b", "Z", "zz", strings.Repeat("x", api.MaxName))
	l := made(t, given, chain(given))
	if got := l.Levels(); !slices.Equal(got, given) {
		t.Errorf("Levels() = %q", got)
	}
	for want, name := range given {
		if got, ok := l.Find(name); got != want || !ok {
			t.Errorf("Find(%q) = %d, %v", name, got, ok)
		}
	}
	for _, name := range names("", "y", "a", "zzz", "\x00\x00", given[6]+"x", given[6][1:]) {
		if got, ok := l.Find(name); got != 0 || ok {
			t.Errorf("Find(%q) = %d, %v", name, got, ok)
		}
	}
}

func TestMany(t *testing.T) {
	full, more := numbered(api.MaxLevels), numbered(api.MaxLevels+1)
	made(t, full, chain(full))
	refused(t, "a level too many", more, chain(more), api.ErrMany)
	refused(t, "many levels", numbered(5000), nil, api.ErrMany)

	levels, es := cube()
	es = append(es, es...)
	if len(es) != api.MaxEdges {
		t.Fatal(len(es))
	}
	made(t, levels, es)
	refused(t, "an edge too many", levels, append(es, es[0]), api.ErrMany)
	refused(t, "an edge to itself too many", names("one"), slices.Repeat(edges("one<one"), api.MaxEdges+1), api.ErrMany)
	made(t, names("one"), slices.Repeat(edges("one<one"), api.MaxEdges))
}

func TestNames(t *testing.T) {
	long := strings.Repeat("x", api.MaxName+1)
	wide := strings.Repeat("ä", api.MaxName/2)
	made(t, names(long[1:]), nil)
	made(t, names(wide), nil)
	for _, c := range []struct {
		what   string
		levels []string
		es     string
	}{
		{"an empty name", names(""), ""},
		{"an empty name behind", names("a", "b", ""), "a<b"},
		{"a name too long", names(long), ""},
		{"a name too long by its bytes", names(wide + "x"), ""},
		{"a name too long behind", names("a", long), "a<" + long},
		{"a name twice", names("a", "a"), ""},
		{"a name twice with an edge", names("a", "b", "a"), "a<b"},
		{"two empty names", names("", ""), "<"},
		{"an edge from none", names("a"), "b<a"},
		{"an edge to none", names("a"), "a<b"},
		{"an edge between none", names("a"), "b<b"},
		{"an edge from the empty name", names("a"), "<a"},
		{"an edge to the empty name", names("a"), "a<"},
		{"an edge to a name in capitals", names("a"), "a<A"},
		{"the last edge names none", names("a", "b", "c"), "a<b,b<c,a<d"},
	} {
		refused(t, c.what, c.levels, edges(c.es), api.ErrName)
	}
}

func TestNoLattice(t *testing.T) {
	for _, c := range []struct {
		what   string
		levels []string
		es     string
	}{
		{"no levels", nil, ""},
		{"an empty list of levels", names(), ""},
		{"two below one another", names("a", "b"), "a<b,b<a"},
		{"three below one another", names("a", "b", "c"), "a<b,b<c,c<a"},
		{"a ring above a level", names("a", "b", "c"), "a<b,b<c,c<b"},
		{"a ring in the middle", names("low", "a", "b", "high"), "low<a,a<b,b<a,b<high"},
		{"two that nothing joins", names("a", "b"), ""},
		{"two that nothing joins, with edges to themselves", names("a", "b"), "a<a,b<b"},
		{"two tops", names("low", "a", "b"), "low<a,low<b"},
		{"two bottoms", names("a", "b", "high"), "a<high,b<high"},
		{"two least ones above both", names("low", "a", "b", "c", "d", "high"), "low<a,low<b,a<c,a<d,b<c,b<d,c<high,d<high"},
		{"a chain and one beside it", names("a", "b", "c"), "a<b"},
	} {
		refused(t, c.what, c.levels, edges(c.es), api.ErrLevel)
	}
}

func TestFirstNamedErrorIsTold(t *testing.T) {
	twice := append(numbered(api.MaxLevels), "n0")
	none := slices.Repeat(edges("x<y"), api.MaxEdges+1)
	refused(t, "too many levels, one of them twice", twice, nil, api.ErrMany)
	refused(t, "too many levels, without a name", make([]string, api.MaxLevels+1), nil, api.ErrMany)
	refused(t, "too many edges that name none", names("a"), none, api.ErrMany)
	refused(t, "too many edges, a name twice", names("a", "a"), none, api.ErrMany)
	refused(t, "too many edges, no levels", nil, none, api.ErrMany)
	refused(t, "edges, no levels", nil, edges("a<b"), api.ErrName)
	refused(t, "a name twice, two below one another", names("a", "b", "a"), edges("a<b,b<a"), api.ErrName)
	refused(t, "two below one another, then an edge that names none", names("a", "b"), edges("a<b,b<a,a<c"), api.ErrName)
	refused(t, "two that nothing joins, one name empty", names("a", ""), nil, api.ErrName)
}

// strays are numbers that are no levels of a lattice of n.
func strays(n int) []int {
	return []int{-1, -2, n, n + 1, api.MaxLevels, api.MaxLevels + 1, 31, 32, 63, 64, 1 << 40, -1 << 63, 1<<63 - 1}
}

func TestNoLevel(t *testing.T) {
	l := diamond(t)
	for _, a := range strays(4) {
		for b := range 4 {
			if l.Leq(a, b) || l.Leq(b, a) || l.Leq(a, a) {
				t.Errorf("Leq holds of %d and %d", a, b)
			}
			if l.Join(a, b) != -1 || l.Join(b, a) != -1 || l.Join(a, a) != -1 {
				t.Errorf("%d and %d have a join", a, b)
			}
			if l.Meet(a, b) != -1 || l.Meet(b, a) != -1 || l.Meet(a, a) != -1 {
				t.Errorf("%d and %d have a meet", a, b)
			}
		}
		if got := l.Above(a); len(got) != 0 {
			t.Errorf("Above(%d) = %v", a, got)
		}
	}
}

// Of nil there is nothing, false and -1, and so there is of a lattice that New did not make.
func TestNil(t *testing.T) {
	for what, l := range map[string]*lattice.Lattice{"nil": nil, "a zero lattice": {}} {
		if got := l.Levels(); len(got) != 0 {
			t.Errorf("%s: Levels() = %q", what, got)
		}
		for _, name := range names("", "low") {
			if a, ok := l.Find(name); a != 0 || ok {
				t.Errorf("%s: Find(%q) = %d, %v", what, name, a, ok)
			}
		}
		if l.Bottom() != -1 || l.Top() != -1 {
			t.Errorf("%s: Bottom, Top = %d, %d", what, l.Bottom(), l.Top())
		}
		for _, a := range strays(0) {
			for _, b := range []int{a, 0} {
				if l.Leq(a, b) || l.Leq(b, a) || l.Join(a, b) != -1 || l.Meet(a, b) != -1 || len(l.Above(b)) != 0 {
					t.Errorf("%s has levels: %d, %d", what, a, b)
				}
			}
		}
	}
}
