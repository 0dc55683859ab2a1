package unparse_test

import (
	"fmt"
	"strconv"
	"strings"

	"cordon/api"
)

// model puts texts together from the texts of their parts, without asking whether anything is right, too deep or too long: what is not right comes to a text that is not read, or read as something else.
type model struct{}

func nth[T any](l []T, i int, text func(x T) string) string {
	if i < len(l) {
		return text(l[i])
	}
	return "?"
}

func each[T any](l []T, between string, text func(x T) string) string {
	var out []string
	for _, x := range l {
		out = append(out, text(x))
	}
	return strings.Join(out, between)
}

// maybe is words ahead of the texts of a list, and nothing if that is empty.
func maybe[T any](words string, l []T, text func(x T) string) string {
	if len(l) == 0 {
		return ""
	}
	return words + each(l, ", ", text)
}

func (m model) expr(x api.Expr) string {
	turned := map[int]string{1: "not "}[x.N]
	switch x.Kind {
	case api.ExNull:
		return "null"
	case api.ExBool:
		return strconv.FormatBool(x.N == 1)
	case api.ExInt:
		return fmt.Sprint(x.N)
	case api.ExText:
		return "'" + strings.Join(strings.Split(x.S, "'"), "''") + "'"
	case api.ExCol:
		if x.T == "" {
			return x.S
		}
		return x.T + "." + x.S
	case api.ExVar:
		return ":" + x.S
	case api.ExNeg:
		return "-" + nth(x.Kids, 0, m.operand)
	case api.ExNot:
		return "not " + nth(x.Kids, 0, m.operand)
	case api.ExIs:
		return fmt.Sprintf("%s is %snull", nth(x.Kids, 0, m.operand), turned)
	case api.ExBin:
		return fmt.Sprintf("%s %s %s", nth(x.Kids, 0, m.operand), x.S, nth(x.Kids, 1, m.operand))
	case api.ExCase:
		return fmt.Sprintf("case when %s then %s else %s end", nth(x.Kids, 0, m.expr), nth(x.Kids, 1, m.expr), nth(x.Kids, 2, m.expr))
	case api.ExExists:
		return fmt.Sprintf("exists (%s)", nth(x.Q, 0, m.query))
	case api.ExIn:
		return fmt.Sprintf("%s %sin (%s)", nth(x.Kids, 0, m.operand), turned, nth(x.Q, 0, m.query))
	case api.ExScalar:
		return fmt.Sprintf("(%s)", nth(x.Q, 0, m.query))
	case api.ExAgg:
		if len(x.Kids) == 0 {
			return x.S + "(*)"
		}
		return fmt.Sprintf("%s(%s)", x.S, m.expr(x.Kids[0]))
	}
	return "?"
}

func (m model) operand(x api.Expr) string {
	for _, kind := range []int{api.ExBin, api.ExNeg, api.ExNot, api.ExIs, api.ExIn} {
		if x.Kind == kind {
			return "(" + m.expr(x) + ")"
		}
	}
	return m.expr(x)
}

func (m model) query(x api.Query) string {
	if x.Kind == api.QuSelect {
		return m.selected(x)
	}
	word, ok := map[int]string{api.QuUnion: "union", api.QuUnionAll: "union all", api.QuExcept: "except", api.QuIntersect: "intersect"}[x.Kind]
	if !ok {
		return "?"
	}
	return nth(x.Kids, 0, m.query) + " " + word + " " + nth(x.Kids, 1, func(y api.Query) string {
		if y.Kind == api.QuSelect {
			return m.query(y)
		}
		return "(" + m.query(y) + ")"
	})
}

func (m model) selected(x api.Query) string {
	s := "select "
	if x.Distinct {
		s += "distinct "
	}
	s += each(x.Items, ", ", func(i api.Item) string { return m.expr(i.E) + " as " + i.Name })
	s += maybe(" from ", x.From, m.from) + maybe(" where ", x.Where, m.expr)
	s += maybe(" group by ", x.Group, m.expr) + maybe(" having ", x.Having, m.expr)
	s += maybe(" order by ", x.Order, func(k api.Key) string {
		return m.expr(k.E) + map[bool]string{true: " desc"}[k.Desc]
	})
	if x.Limit != -1 {
		s += fmt.Sprintf(" limit %d", x.Limit)
	}
	return s
}

func (m model) from(x api.From) string {
	switch x.Kind {
	case api.FrTable:
		s := x.Table + map[bool]string{true: " visible"}[x.Visible]
		if x.As != x.Table {
			s += " as " + x.As
		}
		return s
	case api.FrQuery:
		return fmt.Sprintf("(%s) as %s", nth(x.Q, 0, m.query), x.As)
	case api.FrJoin, api.FrLeft:
		return fmt.Sprintf("%s %sjoin %s on %s", nth(x.Kids, 0, m.from), map[int]string{api.FrLeft: "left "}[x.Kind], nth(x.Kids, 1, m.from), nth(x.On, 0, m.expr))
	}
	return "?"
}

func (m model) typed(n int) string {
	return map[int]string{api.TyBool: "bool", api.TyInt: "int", api.TyText: "text"}[n]
}

func (m model) variable(v api.Var) string { return v.Name + " " + m.typed(v.Type) }

func (m model) script(x api.Script) string {
	s := m.decls(x.Vars, "")
	for _, p := range x.Procs {
		s += fmt.Sprintf("proc %s(%s) {\n%s%s}\n", p.Name, each(p.Params, ", ", m.variable), m.decls(p.Vars, "  "), m.stmts(p.Body, "  "))
	}
	return s + m.stmts(x.Body, "")
}

func (m model) decls(l []api.Var, ahead string) string {
	return each(l, "", func(v api.Var) string { return ahead + "var " + m.variable(v) + ";\n" })
}

// stmts is lines with the same blanks ahead of each.
func (m model) stmts(l []api.Stmt, ahead string) string {
	return each(l, "", func(x api.Stmt) string { return ahead + m.stmt(x, ahead) + "\n" })
}

func (m model) stmt(x api.Stmt, ahead string) string {
	block := func(head string, body []api.Stmt) string {
		return head + " {\n" + m.stmts(body, ahead+"  ") + ahead + "}"
	}
	switch x.Kind {
	case api.StIf:
		s := block("if "+nth(x.E, 0, m.expr), x.Body)
		if len(x.Else) > 0 {
			s += block(" else", x.Else)
		}
		return s
	case api.StWhile:
		return block("while "+nth(x.E, 0, m.expr), x.Body)
	case api.StFor:
		return block("for "+strings.Join(x.Names, ", ")+" in "+nth(x.Q, 0, m.query), x.Body)
	case api.StTry:
		return block("try", x.Body) + block(" catch", x.Else)
	}
	return m.single(x) + ";"
}

func (m model) single(x api.Stmt) string {
	assigned := func() string {
		var l []string
		for i, name := range x.Names {
			l = append(l, name+" = "+nth(x.E, i, m.expr))
		}
		return strings.Join(l, ", ")
	}
	switch x.Kind {
	case api.StSet:
		return "set " + assigned()
	case api.StPrint:
		return "print " + x.Table + " " + nth(x.E, 0, m.expr)
	case api.StInput:
		return "input " + strings.Join(x.Names, ", ")
	case api.StInsert:
		return "insert into " + x.Table + " values (" + each(x.E, ", ", m.expr) + ")"
	case api.StInsertQ:
		return "insert into " + x.Table + " " + nth(x.Q, 0, m.query)
	case api.StUpdate:
		return "update " + x.Table + " set " + assigned() + maybe(" where ", x.Where, m.expr)
	case api.StDelete:
		return "delete from " + x.Table + maybe(" where ", x.Where, m.expr)
	case api.StCall:
		return "call " + x.Table + "(" + each(x.E, ", ", m.expr) + ")"
	}
	return map[int]string{api.StRaise: "raise", api.StBegin: "begin", api.StCommit: "commit", api.StRollback: "rollback", api.StSkip: "skip"}[x.Kind]
}

func (m model) schema(x api.Schema) string {
	pairs := func(word string, l []api.Pair, mark string) string {
		return each(l, "", func(p api.Pair) string { return word + " " + p.Low + mark + p.High + ";\n" })
	}
	s := ""
	if len(x.Levels) > 0 {
		s = "levels " + strings.Join(x.Levels, ", ") + ";\n"
	}
	s += pairs("order", x.Edges, " < ")
	s += each(x.Tables, "", m.table)
	s += pairs("channel", x.Channels, " ") + pairs("principal", x.Principals, " ")
	if x.Limit != 0 {
		s += fmt.Sprintf("limit %d;\n", x.Limit)
	}
	return s
}

func (m model) table(x api.Table) string {
	s := fmt.Sprintf("table %s rows %s (%s)", x.Name, x.Rows, each(x.Cols, ", ", func(c api.Col) string {
		return c.Name + " " + m.typed(c.Type) + map[bool]string{true: " null"}[c.Null] + " " + c.Level
	}))
	if len(x.Key) > 0 {
		s += " key (" + strings.Join(x.Key, ", ") + ")"
	}
	if len(x.When) > 0 || x.Hide != "" {
		s += " hide " + x.Hide + " when " + each(x.When, ", ", m.expr)
	}
	return s + ";\n"
}
