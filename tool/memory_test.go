package tool_test

import (
	"math/rand"
	"testing"

	"cordon/api"
	"cordon/tool"
)

// Rules 3 and 5, P2: a job that is told is not changed, nor is the room behind its lists; an empty list is as none.
func TestTellLeavesItsJob(t *testing.T) {
	all := wrongs()
	for seed := range 3000 {
		r := rand.New(rand.NewSource(int64(seed)))
		j := madeJob(r)
		if seed%3 == 0 {
			bendJob(r, all, &j)
		}
		s, err := tool.Tell(j)
		for _, handed := range one(roomy(j), emptied(j), copied(j)) {
			got, wrong := tool.Tell(handed)
			check(t, "again", got, s)
			check(t, "again", wrong, err)
			check(t, "what is handed in", same(handed, j) && hasRoom(handed), true)
			spoil(&handed)
			check(t, "what was told", got, s)
		}
	}
}

// What Parse hands out is the caller's own: no two lists of a job share memory, nor do two jobs, and one that is spoilt changes no other one.
func TestParseOwnMemory(t *testing.T) {
	for seed := range 3000 {
		s := madeText(rand.New(rand.NewSource(int64(seed))))
		x, at, err := tool.Parse(s)
		was := copied(x)
		y, _, _ := tool.Parse(s)
		check(t, s, ownMemory(x, y), true)
		spoil(&x)
		for i := range x.Loads {
			x.Loads[i].Rows = append(x.Loads[i].Rows, row(num(7)))
		}
		check(t, s, same(y, was), true)
		z, again, wrong := tool.Parse(s)
		check(t, s, same(z, was) && again == at && wrong == err, true)
	}
	s := "#rows t\n1, 2\n3\n#rows u\n'a', 'b'\n#rows t\n4\n#inputs\n1\n2\n#inputs\n3\n#ask a\nx\n#ask b\ny\n"
	x, _, _ := tool.Parse(s)
	y, _, _ := tool.Parse(s)
	check(t, s, len(pieces(x)) > 8 && ownMemory(x, y), true)
	x.Loads[0].Rows = append(x.Loads[0].Rows[:1], row(num(9)))
	check(t, s, same(x.Loads[1:], y.Loads[1:]), true)
}

// What is refused, and what is done, leaves nothing behind: calls between change nothing.
func TestCallsApart(t *testing.T) {
	right := ofSchema("insert into t values (3, 3); print out 1;", append(rowsToAsk(), "#fuel 9", "#ask bob", "select b as x from t")...)
	was := runOf(right)
	check(t, "a run", was.err, api.OK)
	for _, s := range one("", "x", "#", "#rows t\nx\n", "#fuel 01", ofSchema("raise;"), ofSchema("print out (select max(b) as m from t);", "#rows t", "1, 1"), ofSchema("skip;", "#rows nosuch")) {
		first := runOf(s)
		check(t, s, runOf(right), was)
		tool.Parse(s)
		refused(t, "a job", api.Job{Fuel: -1, Script: s + "\n"}, api.ErrForm)
		check(t, s, runOf(s), first)
		check(t, s, runOf(right), was)
	}
}
