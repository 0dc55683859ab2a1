package schema

import (
	"slices"

	"cordon/api"
)

// table is one that is being looked up: what is asked, where its columns' names stand, and what is known so far.
type table struct {
	c      *Catalog
	asked  api.Table
	places map[string]int
	known  api.Relation
}

// relation looks a table up, behind those that the catalog has already.
func (c *Catalog) relation(asked api.Table) (api.Relation, api.Errno) {
	t := &table{c: c, asked: asked}
	t.known.Name, t.known.Hide = asked.Name, none
	steps := [...]func() api.Errno{
		func() api.Errno { return unless(len(asked.Cols) > 0 && len(asked.Cols) <= api.MaxCols, api.ErrMany) },
		func() api.Errno { return unless(t.takeNames(), api.ErrName) },
		func() api.Errno { return unless(t.takeTypes(), api.ErrType) },
		func() api.Errno { return unless(t.takeLevels(), api.ErrName) },
		func() api.Errno { return unless(t.takeKey(), api.ErrName) },
		func() api.Errno { return unless(t.keyIsLow(), api.ErrFlow) },
		func() api.Errno { return t.takeHidden() },
	}
	if err := first(steps[:]); err != api.OK {
		return api.Relation{}, err
	}
	return t.known, api.OK
}

// takeHidden looks at which rows are hidden, if that is asked.
func (t *table) takeHidden() api.Errno {
	if t.asked.Hide == "" && len(t.asked.When) == 0 {
		return api.OK
	}
	steps := [...]func() api.Errno{
		func() api.Errno { return unless(t.takeHide(), api.ErrName) },
		func() api.Errno { return unless(t.c.levels.Leq(t.known.Rows, t.known.Hide), api.ErrFlow) },
		func() api.Errno { return unless(t.takeWhen(), api.ErrShape) },
		func() api.Errno { return unless(isLogical(t.typeOf(t.known.When[0])), api.ErrType) },
		func() api.Errno { return unless(t.isLow(t.known.When[0]), api.ErrFlow) },
	}
	return first(steps[:])
}

// first goes step by step, as each leans on those ahead of it, up to the first that answers an error.
func first(steps []func() api.Errno) api.Errno {
	for _, step := range steps {
		if err := step(); err != api.OK {
			return err
		}
	}
	return api.OK
}

func unless(holds bool, err api.Errno) api.Errno {
	if holds {
		return api.OK
	}
	return err
}

func (t *table) takeNames() bool {
	if _, twice := t.c.places[t.asked.Name]; twice || t.asked.Name == "" {
		return false
	}
	t.places = make(map[string]int, len(t.asked.Cols))
	for i, col := range t.asked.Cols {
		if _, twice := t.places[col.Name]; twice || col.Name == "" {
			return false
		}
		t.places[col.Name] = i
	}
	return true
}

func (t *table) takeTypes() bool {
	for _, col := range t.asked.Cols {
		switch col.Type {
		case api.TyBool, api.TyInt, api.TyText:
			t.known.Cols = append(t.known.Cols, api.Field{Name: col.Name, Type: col.Type, Null: col.Null})
		default:
			return false
		}
	}
	return true
}

func (t *table) takeLevels() bool {
	var is bool
	if t.known.Rows, is = t.c.levels.Find(t.asked.Rows); !is {
		return false
	}
	for i, col := range t.asked.Cols {
		if t.known.Cols[i].Level, is = t.c.levels.Find(col.Level); !is {
			return false
		}
	}
	return true
}

func (t *table) takeKey() bool {
	for _, name := range t.asked.Key {
		place, is := t.places[name]
		if !is || slices.Contains(t.known.Key, place) {
			return false
		}
		t.known.Key = append(t.known.Key, place)
	}
	return true
}

// keyIsLow asks that whoever sees which rows there are may see their keys, as two rows that collide tell them.
func (t *table) keyIsLow() bool {
	for _, place := range t.known.Key {
		if !t.columnIsLow(place) {
			return false
		}
	}
	return true
}

func (t *table) columnIsLow(place int) bool {
	return t.c.levels.Leq(t.known.Cols[place].Level, t.known.Rows)
}

func (t *table) takeHide() bool {
	var is bool
	t.known.Hide, is = t.c.levels.Find(t.asked.Hide)
	return is
}

func (t *table) takeWhen() bool {
	if len(t.asked.When) != 1 || !t.isPredicate(t.asked.When[0], 1) {
		return false
	}
	t.known.When = cloned(t.asked.When, cloneExpr)
	return true
}
