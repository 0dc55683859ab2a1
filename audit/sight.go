package audit

import (
	"cordon/api"
	"cordon/schema"
)

// order tells which levels stand below which; what is no level stands below none.
type order interface {
	Leq(a, b int) bool
}

// seeing tells of levels whether all of them are seen.
type seeing func(levels ...int) bool

// sight is what is seen at a level.
func sight(o order, own int) seeing {
	return func(levels ...int) bool {
		for _, level := range levels {
			if !o.Leq(level, own) {
				return false
			}
		}
		return true
	}
}

// sightOf is what a principal sees, if there is one of that name.
func sightOf(c *schema.Catalog, who string) (seeing, bool) {
	own, ok := c.Principal(who)
	return sight(c.Lattice(), own), ok
}

// told tells whether all that an answer tells is seen: how many rows there are, what stands in them, and whether there is an error in place of them.
func told(s api.Sheet, sees seeing) bool {
	return sees(s.Rows) && sees(s.Cols...) && (!s.Can || sees(s.Raise))
}

// names are those of which the level is one that is asked for.
func names(l []api.Named, asked func(level int) bool) []string {
	var out []string
	for _, n := range l {
		if asked(n.Level) {
			out = append(out, n.Name)
		}
	}
	return out
}
