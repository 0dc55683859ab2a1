package syntax

import "cordon/api"

func (r *reader) expr() api.Expr { return deeper(r, r.or) }

func (r *reader) or() api.Expr { return r.operands(r.and, "or") }

func (r *reader) and() api.Expr { return r.operands(r.not, "and") }

func (r *reader) not() api.Expr {
	if r.take("not") {
		return api.Expr{Kind: api.ExNot, Kids: []api.Expr{deeper(r, r.not)}}
	}
	return r.compared()
}

// compared reads at most one comparison: a second one behind it is left, and may not stand there.
func (r *reader) compared() api.Expr {
	x := r.sum()
	if mark, ok := r.takeAny("=", "<>", "<", "<=", ">", ">="); ok {
		return binary(x, mark, r.sum())
	}
	turned := 0
	switch {
	case r.take("is"):
		if r.take("not") {
			turned = 1
		}
		r.want("null")
		return api.Expr{Kind: api.ExIs, N: turned, Kids: []api.Expr{x}}
	case r.take("not"):
		turned = 1
		fallthrough
	case r.sees("in"):
		r.want("in")
		return api.Expr{Kind: api.ExIn, N: turned, Kids: []api.Expr{x}, Q: []api.Query{inBrackets(r, r.query)}}
	}
	return x
}

func (r *reader) sum() api.Expr { return r.operands(r.product, "+", "-", "||") }

func (r *reader) product() api.Expr { return r.operands(r.unary, "*", "/", "%") }

func (r *reader) unary() api.Expr {
	if r.take("-") {
		return api.Expr{Kind: api.ExNeg, Kids: []api.Expr{deeper(r, r.unary)}}
	}
	return r.prim()
}

// operands reads one or more, with marks between.
func (r *reader) operands(read func() api.Expr, marks ...string) api.Expr {
	return fromLeft(r, read(), func(left api.Expr, mark string) api.Expr {
		return binary(left, mark, read())
	}, marks...)
}

func binary(left api.Expr, mark string, right api.Expr) api.Expr {
	return api.Expr{Kind: api.ExBin, S: mark, Kids: []api.Expr{left, right}}
}

func (r *reader) prim() api.Expr {
	t := r.left[0]
	switch {
	case r.takeKind(api.TkInt):
		return api.Expr{Kind: api.ExInt, N: t.N}
	case r.takeKind(api.TkText):
		return api.Expr{Kind: api.ExText, S: t.Text}
	case r.take("null"):
		return api.Expr{Kind: api.ExNull}
	case r.take("true"):
		return api.Expr{Kind: api.ExBool, N: 1}
	case r.take("false"):
		return api.Expr{Kind: api.ExBool}
	case r.take(":"):
		return api.Expr{Kind: api.ExVar, S: r.name()}
	case r.take("case"):
		return r.choice()
	case r.take("exists"):
		return api.Expr{Kind: api.ExExists, Q: []api.Query{inBrackets(r, r.query)}}
	case r.sees("("):
		return inBrackets(r, r.bracketed)
	}
	return r.named()
}

// bracketed reads a query just if it begins with select, so that one token tells queries from expressions that begin with brackets.
func (r *reader) bracketed() api.Expr {
	if r.sees("select") {
		return api.Expr{Kind: api.ExScalar, Q: []api.Query{r.query()}}
	}
	return r.expr()
}

func (r *reader) choice() api.Expr {
	x := api.Expr{Kind: api.ExCase}
	for _, word := range []string{"when", "then", "else"} {
		r.want(word)
		x.Kids = append(x.Kids, r.expr())
	}
	r.want("end")
	return x
}

// named leaves a ( behind a name that gathers nothing: nothing can go on with it, so it is refused where it stands.
func (r *reader) named() api.Expr {
	name := r.name()
	switch {
	case r.take("."):
		return api.Expr{Kind: api.ExCol, T: name, S: r.name()}
	case gathers(name) && r.sees("("):
		return api.Expr{Kind: api.ExAgg, S: name, Kids: r.gathered(name)}
	}
	return api.Expr{Kind: api.ExCol, S: name}
}

func (r *reader) gathered(name string) []api.Expr {
	return inBrackets(r, func() []api.Expr {
		if name == "count" && r.take("*") {
			return nil
		}
		return []api.Expr{r.expr()}
	})
}

func gathers(name string) bool {
	switch name {
	case "count", "sum", "min", "max":
		return true
	}
	return false
}
