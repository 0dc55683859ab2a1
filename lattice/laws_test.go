package lattice_test

import (
	"math/rand"
	"slices"
	"testing"

	"cordon/api"
	"cordon/lattice"
)

// order is which of n levels stands below which, reckoned from edges by what the chapter's words say.
type order struct {
	n   int
	leq [api.MaxLevels][api.MaxLevels]bool
}

func reckoned(levels []string, es []api.Pair) order {
	o := order{n: len(levels)}
	for a := range levels {
		o.walk(levels, es, a, a)
	}
	return o
}

// walk marks all that edges lead to from b as above a.
func (o *order) walk(levels []string, es []api.Pair, a, b int) {
	if o.leq[a][b] {
		return
	}
	o.leq[a][b] = true
	for _, e := range es {
		if e.Low == levels[b] {
			o.walk(levels, es, a, slices.Index(levels, e.High))
		}
	}
}

// least is the one level of which holds is true and that stands below all others of which it is; -1 if there is none.
func (o *order) least(below func(a, b int) bool, holds func(a int) bool) int {
	found := -1
	for a := range o.n {
		first := holds(a)
		for b := range o.n {
			first = first && (!holds(b) || below(a, b))
		}
		if first && found >= 0 {
			return -1
		}
		if first {
			found = a
		}
	}
	return found
}

func (o *order) join(a, b int) int {
	return o.least(func(x, y int) bool { return o.leq[x][y] }, func(c int) bool { return o.leq[a][c] && o.leq[b][c] })
}

func (o *order) meet(a, b int) int {
	return o.least(func(x, y int) bool { return o.leq[y][x] }, func(c int) bool { return o.leq[c][a] && o.leq[c][b] })
}

// isLattice tells whether no two unlike ones stand below one another, and all joins and meets are there.
func (o *order) isLattice() bool {
	for a := range o.n {
		for b := range o.n {
			if a != b && o.leq[a][b] && o.leq[b][a] || o.join(a, b) < 0 || o.meet(a, b) < 0 {
				return false
			}
		}
	}
	return o.n > 0
}

// agrees holds what New answers against an order that is reckoned otherwise, and tells whether it is a lattice.
func agrees(t *testing.T, levels []string, es []api.Pair) bool {
	t.Helper()
	o := reckoned(levels, es)
	l, err := lattice.New(levels, es)
	if !o.isLattice() {
		if l != nil || err != api.ErrLevel {
			t.Fatalf("New(%q, %q) = %v, %v", levels, es, l, err)
		}
		return false
	}
	if l == nil || err != api.OK {
		t.Fatalf("New(%q, %q) = %v, %v", levels, es, l, err)
	}
	for a := range o.n {
		var above []int
		for b := range o.n {
			if l.Leq(a, b) != o.leq[a][b] || l.Join(a, b) != o.join(a, b) || l.Meet(a, b) != o.meet(a, b) {
				t.Fatalf("%q: %d and %d: %v, %d, %d", es, a, b, l.Leq(a, b), l.Join(a, b), l.Meet(a, b))
			}
			if o.leq[a][b] {
				above = append(above, b)
			}
			if !o.leq[l.Bottom()][a] || !o.leq[a][l.Top()] {
				t.Fatalf("%q: Bottom, Top = %d, %d", es, l.Bottom(), l.Top())
			}
		}
		if got := l.Above(a); !slices.Equal(got, above) {
			t.Fatalf("%q: Above(%d) = %v, not %v", es, a, got, above)
		}
	}
	return true
}

// All sets of edges between up to four levels; between four of them without those from a level to itself.
func TestAllSmallOrders(t *testing.T) {
	for n, want := range []int{0, 1, 2, 6} {
		levels := numbered(n)
		seen := map[order]bool{}
		for set := range 1 << (n * n) {
			if es := drawn(levels, set); agrees(t, levels, es) {
				seen[reckoned(levels, es)] = true
			}
		}
		if len(seen) != want {
			t.Errorf("%d levels are %d lattices, not %d", n, len(seen), want)
		}
	}
	levels := numbered(4)
	seen := map[order]bool{}
	for set := range 1 << 16 {
		if set&0x8421 == 0 {
			if es := drawn(levels, set); agrees(t, levels, es) {
				seen[reckoned(levels, es)] = true
			}
		}
	}
	if len(seen) != 36 {
		t.Errorf("4 levels are %d lattices, not 36", len(seen))
	}
}

// drawn are the edges that the bits of set tell.
func drawn(levels []string, set int) []api.Pair {
	var out []api.Pair
	for i := range len(levels) * len(levels) {
		if set>>i&1 == 1 {
			out = append(out, api.Pair{Low: levels[i/len(levels)], High: levels[i%len(levels)]})
		}
	}
	return out
}

// sample is lattices of many shapes, as levels and edges.
func sample(t *testing.T) []sampled {
	t.Helper()
	levels, es := cube()
	out := []sampled{
		{names("one"), nil},
		{names("low", "a", "b", "high"), edges(example)},
		{names("0", "x", "y", "z", "1"), edges("0<x,x<y,y<1,0<z,z<1")},
		{names("1", "c", "b", "a", "0"), edges("0<a,0<b,0<c,a<1,b<1,c<1")},
		{numbered(api.MaxLevels), chain(numbered(api.MaxLevels))},
		{levels, es},
	}
	r := rand.New(rand.NewSource(3))
	for tries := 0; len(out) < 60; tries++ {
		if tries > 1000000 {
			t.Fatal("too few lattices are found")
		}
		n := 4 + r.Intn(7)
		levels := numbered(n)
		var es []api.Pair
		for _, i := range r.Perm(n)[1:] {
			es = append(es, api.Pair{Low: levels[0], High: levels[i]}, api.Pair{Low: levels[i], High: levels[n-1]})
		}
		for range r.Intn(2 * n) {
			a := r.Intn(n - 1)
			es = append(es, api.Pair{Low: levels[a], High: levels[a+1+r.Intn(n-a-1)]})
		}
		es = slices.DeleteFunc(es, func(e api.Pair) bool { return e.High == levels[0] })
		if o := reckoned(levels, es); o.isLattice() && len(es) <= api.MaxEdges {
			r.Shuffle(n, func(i, j int) { levels[i], levels[j] = levels[j], levels[i] })
			out = append(out, sampled{levels, es})
		}
	}
	return out
}

type sampled struct {
	levels []string
	edges  []api.Pair
}

func TestSampleAgrees(t *testing.T) {
	for _, s := range sample(t) {
		if !agrees(t, s.levels, s.edges) {
			t.Errorf("%q with %q is no lattice", s.levels, s.edges)
		}
	}
}

func TestTurnGroupSwallow(t *testing.T) {
	for _, s := range sample(t) {
		l := made(t, s.levels, s.edges)
		for a := range s.levels {
			for b := range s.levels {
				join, meet := l.Join(a, b), l.Meet(a, b)
				if join != l.Join(b, a) || meet != l.Meet(b, a) {
					t.Fatalf("%q: %d and %d do not turn", s.edges, a, b)
				}
				if l.Join(a, meet) != a || l.Meet(a, join) != a {
					t.Fatalf("%q: %d does not swallow %d", s.edges, a, b)
				}
				if leq := l.Leq(a, b); leq != (join == b) || leq != (meet == a) {
					t.Fatalf("%q: Leq(%d, %d) = %v, and Join %d, Meet %d", s.edges, a, b, leq, join, meet)
				}
				for c := range s.levels {
					if l.Join(join, c) != l.Join(a, l.Join(b, c)) || l.Meet(meet, c) != l.Meet(a, l.Meet(b, c)) {
						t.Fatalf("%q: %d, %d and %d do not group", s.edges, a, b, c)
					}
				}
			}
		}
	}
}

func TestLeast(t *testing.T) {
	for _, s := range sample(t) {
		l := made(t, s.levels, s.edges)
		for a := range s.levels {
			for b := range s.levels {
				for c := range s.levels {
					if (l.Leq(a, c) && l.Leq(b, c)) != l.Leq(l.Join(a, b), c) {
						t.Fatalf("%q: Join(%d, %d) and %d", s.edges, a, b, c)
					}
					if (l.Leq(c, a) && l.Leq(c, b)) != l.Leq(c, l.Meet(a, b)) {
						t.Fatalf("%q: Meet(%d, %d) and %d", s.edges, a, b, c)
					}
				}
			}
		}
	}
}

// told is all that a lattice answers, as one value.
type told struct {
	order
	join, meet  [api.MaxLevels][api.MaxLevels]int
	above       [api.MaxLevels]int
	bottom, top int
}

func tells(l *lattice.Lattice) told {
	n := len(l.Levels())
	out := told{order: order{n: n}, bottom: l.Bottom(), top: l.Top()}
	for a := range n {
		for b := range n {
			out.leq[a][b], out.join[a][b], out.meet[a][b] = l.Leq(a, b), l.Join(a, b), l.Meet(a, b)
		}
		for _, b := range l.Above(a) {
			out.above[a] = out.above[a]*api.MaxLevels + b + 1
		}
	}
	return out
}

func TestEdgesInAnyOrderAndMore(t *testing.T) {
	r := rand.New(rand.NewSource(4))
	for _, s := range sample(t) {
		want := tells(made(t, s.levels, s.edges))
		for range 20 {
			more := slices.Clone(s.edges)
			for tries := 0; len(more) < api.MaxEdges && tries < 200; tries++ {
				if a, b := r.Intn(len(s.levels)), r.Intn(len(s.levels)); want.leq[a][b] {
					more = append(more, api.Pair{Low: s.levels[a], High: s.levels[b]})
				}
			}
			r.Shuffle(len(more), func(i, j int) { more[i], more[j] = more[j], more[i] })
			if tells(made(t, s.levels, more)) != want {
				t.Fatalf("%q is another lattice than %q", more, s.edges)
			}
		}
		back := slices.Clone(s.edges)
		slices.Reverse(back)
		if tells(made(t, s.levels, back)) != want {
			t.Fatalf("%q is another lattice backwards", s.edges)
		}
	}
}

// What follows from edges may be left out one after another, and what is left is the same lattice.
func TestEdgesThatFollowMayGo(t *testing.T) {
	for _, s := range sample(t) {
		want := tells(made(t, s.levels, s.edges))
		fewer := slices.Clone(s.edges)
		for i := 0; i < len(fewer); {
			less := slices.Delete(slices.Clone(fewer), i, i+1)
			if reckoned(s.levels, less) != want.order {
				i++
				continue
			}
			fewer = less
			if tells(made(t, s.levels, fewer)) != want {
				t.Fatalf("%q is another lattice than %q", fewer, s.edges)
			}
		}
	}
}

func TestEveryCallAnswers(t *testing.T) {
	r := rand.New(rand.NewSource(5))
	words := append(numbered(4), "", "n0", string(make([]byte, api.MaxName)), string(make([]byte, api.MaxName+1)))
	for range 5000 {
		var levels []string
		for range r.Intn(6) {
			levels = append(levels, words[r.Intn(len(words))])
		}
		var es []api.Pair
		for range r.Intn(8) {
			es = append(es, api.Pair{Low: words[r.Intn(len(words))], High: words[r.Intn(len(words))]})
		}
		l, err := lattice.New(levels, es)
		if (l == nil) != (err != api.OK) || err != api.OK && err != api.ErrName && err != api.ErrLevel {
			t.Fatalf("New(%q, %q) = %v, %v", levels, es, l, err)
		}
		again, same := lattice.New(levels, es)
		if same != err || tells(l) != tells(again) {
			t.Fatalf("New(%q, %q) answers two ways", levels, es)
		}
	}
}

func TestChangesNothing(t *testing.T) {
	for _, levels := range [][]string{names("low", "a", "b", "high"), names("a", "b"), names("a", "a")} {
		es := edges(example)
		levelsWere, edgesWere := slices.Clone(levels), slices.Clone(es)
		lattice.New(levels, es)
		if !slices.Equal(levels, levelsWere) || !slices.Equal(es, edgesWere) {
			t.Errorf("New changes %q, %q", levelsWere, edgesWere)
		}
	}
}

func TestAnswersAreOwn(t *testing.T) {
	levels, es := names("low", "a", "b", "high"), edges(example)
	l := made(t, levels, es)
	want := tells(l)
	levels[0], es[0] = "x", api.Pair{Low: "high", High: "low"}
	l.Levels()[1] = "y"
	l.Above(0)[0] = 3
	if tells(l) != want || !slices.Equal(l.Levels(), names("low", "a", "b", "high")) {
		t.Errorf("what a lattice answers is changed from without: %q", l.Levels())
	}
	if a, ok := l.Find("low"); a != 0 || !ok {
		t.Errorf("Find(low) = %d, %v", a, ok)
	}
	if a, ok := l.Find("x"); a != 0 || ok {
		t.Errorf("Find(x) = %d, %v", a, ok)
	}
}

// A lattice that was made is another one's no matter, nor what was refused.
func TestLatticesStandApart(t *testing.T) {
	first := diamond(t)
	want := tells(first)
	made(t, names("high", "low"), edges("high<low"))
	refused(t, "two tops", names("low", "a", "b"), edges("low<a,low<b"), api.ErrLevel)
	refused(t, "a name twice", names("low", "low"), nil, api.ErrName)
	if tells(first) != want || tells(diamond(t)) != want {
		t.Error("a lattice hangs on others")
	}
}

func TestSignatures(t *testing.T) {
	var _ func([]string, []api.Pair) (*lattice.Lattice, api.Errno) = lattice.New
	var _ interface {
		Levels() []string
		Find(name string) (int, bool)
		Leq(a, b int) bool
		Join(a, b int) int
		Meet(a, b int) int
		Bottom() int
		Top() int
		Above(a int) []int
	} = (*lattice.Lattice)(nil)
}
