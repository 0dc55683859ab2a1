package unparse_test

import "cordon/api"

// Texts, and what they are the texts of: every kind, with each of its parts there and left out.

func exprSamples() map[string]api.Expr {
	a, b, c := col("a"), col("b"), col("c")
	q := selA("b")
	return map[string]api.Expr{
		"null":                          null(),
		"true":                          yes(),
		"false":                         no(),
		"0":                             num(0),
		"42":                            num(42),
		"''":                            text(""),
		"'it''s'":                       text("it's"),
		"'a\n b'":                       text("a\n b"),
		"a":                             a,
		"count":                         col("count"),
		"t.a":                           colOf("t", "a"),
		"sum.max":                       colOf("sum", "max"),
		":v":                            variable("v"),
		"-a":                            neg(a),
		"-1":                            neg(num(1)),
		"not a":                         not(a),
		"a is null":                     is(0, a),
		"a is not null":                 is(1, a),
		"a or b":                        bin(a, "or", b),
		"a and b":                       bin(a, "and", b),
		"a = b":                         bin(a, "=", b),
		"a <> b":                        bin(a, "<>", b),
		"a < b":                         bin(a, "<", b),
		"a <= b":                        bin(a, "<=", b),
		"a > b":                         bin(a, ">", b),
		"a >= b":                        bin(a, ">=", b),
		"a + b":                         bin(a, "+", b),
		"a - b":                         bin(a, "-", b),
		"a || b":                        bin(a, "||", b),
		"a * b":                         bin(a, "*", b),
		"a / b":                         bin(a, "/", b),
		"a % b":                         bin(a, "%", b),
		"case when a then b else c end": choice(a, b, c),
		"exists (select b as x)":        exists(q),
		"a in (select b as x)":          in(0, a, q),
		"a not in (select b as x)":      in(1, a, q),
		"(select b as x)":               scalar(q),
		"count(*)":                      agg("count"),
		"count(a)":                      agg("count", a),
		"sum(a)":                        agg("sum", a),
		"min(t.a)":                      agg("min", colOf("t", "a")),
		"max(:v)":                       agg("max", variable("v")),
		"a + (b * c)":                   bin(a, "+", bin(b, "*", c)),
		"(a + b) * c":                   bin(bin(a, "+", b), "*", c),
		"(a + b) + c":                   bin(bin(a, "+", b), "+", c),
		"not (a is null)":               not(is(0, a)),
		"(not a) is null":               is(0, not(a)),
		"case when a or b then -c else not a end": choice(bin(a, "or", b), neg(c), not(a)),
		"sum(a + b) - max(-c)":                    bin(agg("sum", bin(a, "+", b)), "-", agg("max", neg(c))),
		"-(-a)":                                   neg(neg(a)),
		"a - (-b)":                                bin(a, "-", neg(b)),
		"-case when a then b else c end":          neg(choice(a, b, c)),
		"-(select b as x)":                        neg(scalar(q)),
		"-exists (select b as x)":                 neg(exists(q)),
		"-count(*)":                               neg(agg("count")),
		"-:v":                                     neg(variable("v")),
		"-t.a":                                    neg(colOf("t", "a")),
		"'(' || ')'":                              bin(text("("), "||", text(")")),
		"',' || ';'":                              bin(text(","), "||", text(";")),
		"'.' || ':'":                              bin(text("."), "||", text(":")),
		"(select b as x) in (select (-a) = 1 as x)":                             in(0, scalar(q), sel(item(bin(neg(a), "=", num(1)), "x"))),
		"exists (select b as x union select a as x) and (a in (select b as x))": bin(exists(put(api.QuUnion, q, selA("a"))), "and", in(0, a, q)),
	}
}

func querySamples() map[string]api.Query {
	a, b, c := selA("a"), selA("b"), selA("c")
	seen := with(table("t"), func(f *api.From) { f.Visible = true })
	on := bin(col("a"), "=", col("b"))
	return map[string]api.Query{
		"select a as x":                                          a,
		"select a as x, b as y, 1 as count":                      sel(item(col("a"), "x"), item(col("b"), "y"), item(num(1), "count")),
		"select not a as x, -b as y":                             sel(item(not(col("a")), "x"), item(neg(col("b")), "y")),
		"select distinct a as x":                                 with(a, func(q *api.Query) { q.Distinct = true }),
		"select a as x from t":                                   from(table("t")),
		"select a as x from t visible":                           from(seen),
		"select a as x from t as u":                              from(tableAs("t", "u")),
		"select a as x from t visible as T":                      from(with(seen, func(f *api.From) { f.As = "T" })),
		"select a as x from (select b as x) as u":                from(fromQuery(b, "u")),
		"select a as x from t join u on a = b":                   from(join(api.FrJoin, table("t"), table("u"), on)),
		"select a as x from t left join u visible as v on a = b": from(join(api.FrLeft, table("t"), api.From{Kind: api.FrTable, Table: "u", As: "v", Visible: true}, on)),
		"select a as x from t join u on a left join (select b as x) as v on b join t as w on c": from(join(api.FrJoin, join(api.FrLeft, join(api.FrJoin, table("t"), table("u"), col("a")), fromQuery(b, "v"), col("b")), tableAs("t", "w"), col("c"))),
		"select a as x from (select b as x) as u left join t on a = b":                          from(join(api.FrLeft, fromQuery(b, "u"), table("t"), on)),
		"select a as x where a = b":             with(a, func(q *api.Query) { q.Where = one(on) }),
		"select a as x group by a":              with(a, func(q *api.Query) { q.Group = one(col("a")) }),
		"select a as x group by a, -b, a = b":   with(a, func(q *api.Query) { q.Group = one(col("a"), neg(col("b")), on) }),
		"select a as x group by a having not b": with(a, func(q *api.Query) { q.Group, q.Having = one(col("a")), one(not(col("b"))) }),
		"select a as x order by a":              with(a, func(q *api.Query) { q.Order = one(api.Key{E: col("a")}) }),
		"select a as x order by a desc, b, a = b desc": with(a, func(q *api.Query) {
			q.Order = one(api.Key{E: col("a"), Desc: true}, api.Key{E: col("b")}, api.Key{E: on, Desc: true})
		}),
		"select a as x limit 0":                                                                             with(a, func(q *api.Query) { q.Limit = 0 }),
		"select a as x limit 7":                                                                             with(a, func(q *api.Query) { q.Limit = 7 }),
		"select a as x union select b as x":                                                                 put(api.QuUnion, a, b),
		"select a as x union all select b as x":                                                             put(api.QuUnionAll, a, b),
		"select a as x except select b as x":                                                                put(api.QuExcept, a, b),
		"select a as x intersect select b as x":                                                             put(api.QuIntersect, a, b),
		"select a as x union select b as x except select c as x":                                            put(api.QuExcept, put(api.QuUnion, a, b), c),
		"select a as x union (select b as x except select c as x)":                                          put(api.QuUnion, a, put(api.QuExcept, b, c)),
		"select a as x union all select b as x intersect (select c as x union all select a as x)":           put(api.QuIntersect, put(api.QuUnionAll, a, b), put(api.QuUnionAll, c, a)),
		"select a as x union (select b as x union (select c as x union select a as x) union select b as x)": put(api.QuUnion, a, put(api.QuUnion, put(api.QuUnion, b, put(api.QuUnion, c, a)), b)),
		"select a as x from t where b limit 1 union select c as x order by a limit 2": put(api.QuUnion,
			with(from(table("t")), func(q *api.Query) { q.Where, q.Limit = one(col("b")), 1 }),
			with(c, func(q *api.Query) { q.Order, q.Limit = one(api.Key{E: col("a")}), 2 })),
		"select distinct t.a as x, count(*) as n from t where :v group by t.a having count(*) > 1 order by n desc limit 5": {
			Kind: api.QuSelect, Distinct: true, Items: one(item(colOf("t", "a"), "x"), item(agg("count"), "n")), From: one(table("t")), Where: one(variable("v")),
			Group: one(colOf("t", "a")), Having: one(bin(agg("count"), ">", num(1))), Order: one(api.Key{E: col("n"), Desc: true}), Limit: 5},
	}
}

// stmtSamples are statements, each as the only one of a script.
func stmtSamples() map[string]api.Stmt {
	a, b := col("a"), col("b")
	raise := api.Stmt{Kind: api.StRaise}
	q := selA("a")
	return map[string]api.Stmt{
		"set x = 1;\n":                             set("x", num(1)),
		"set x = not a;\n":                         set("x", not(a)),
		"if a {\n}\n":                              {Kind: api.StIf, E: one(a)},
		"if a {\n  skip;\n}\n":                     {Kind: api.StIf, E: one(a), Body: one(skip())},
		"if a {\n} else {\n  skip;\n}\n":           {Kind: api.StIf, E: one(a), Else: one(skip())},
		"if a {\n  skip;\n} else {\n  raise;\n}\n": {Kind: api.StIf, E: one(a), Body: one(skip()), Else: one(raise)},
		"while a = b {\n}\n":                       {Kind: api.StWhile, E: one(bin(a, "=", b))},
		"while a {\n  skip;\n  raise;\n}\n":        {Kind: api.StWhile, E: one(a), Body: one(skip(), raise)},
		"for x in select a as x {\n}\n":            {Kind: api.StFor, Names: one("x"), Q: one(q)},
		"for x, y in select a as x union select a as x {\n  skip;\n}\n": {Kind: api.StFor, Names: one("x", "y"), Q: one(put(api.QuUnion, q, q)), Body: one(skip())},
		"print out a;\n":               {Kind: api.StPrint, Table: "out", E: one(a)},
		"print out (select a as x);\n": {Kind: api.StPrint, Table: "out", E: one(scalar(q))},
		"print count -a;\n":            {Kind: api.StPrint, Table: "count", E: one(neg(a))},
		"input x;\n":                   {Kind: api.StInput, Names: one("x")},
		"insert into t values (1);\n":  {Kind: api.StInsert, Table: "t", E: one(num(1))},
		"insert into t values (1, (select a as x), a + b);\n":                       {Kind: api.StInsert, Table: "t", E: one(num(1), scalar(q), bin(a, "+", b))},
		"insert into t select a as x;\n":                                            {Kind: api.StInsertQ, Table: "t", Q: one(q)},
		"insert into t select a as x except (select a as x union select a as x);\n": {Kind: api.StInsertQ, Table: "t", Q: one(put(api.QuExcept, q, put(api.QuUnion, q, q)))},
		"update t set a = 1;\n":                                                     {Kind: api.StUpdate, Table: "t", Names: one("a"), E: one(num(1))},
		"update t set a = 1, b = a where a is null;\n":                              {Kind: api.StUpdate, Table: "t", Names: one("a", "b"), E: one(num(1), a), Where: one(is(0, a))},
		"delete from t;\n":                                                          {Kind: api.StDelete, Table: "t"},
		"delete from t where not a;\n":                                              {Kind: api.StDelete, Table: "t", Where: one(not(a))},
		"try {\n} catch {\n}\n":                                                     tried(nil, nil),
		"try {\n  skip;\n} catch {\n}\n":                                            tried(one(skip()), nil),
		"try {\n} catch {\n  skip;\n}\n":                                            tried(nil, one(skip())),
		"try {\n  skip;\n} catch {\n  raise;\n}\n":                                  tried(one(skip()), one(raise)),
		"raise;\n":     raise,
		"call p();\n":  {Kind: api.StCall, Table: "p"},
		"call p(a);\n": {Kind: api.StCall, Table: "p", E: one(a)},
		"call count(-a, (select a as x), a = b);\n": {Kind: api.StCall, Table: "count", E: one(neg(a), scalar(q), bin(a, "=", b))},
		"begin;\n":    {Kind: api.StBegin},
		"commit;\n":   {Kind: api.StCommit},
		"rollback;\n": {Kind: api.StRollback},
		"skip;\n":     skip(),
		"while a {\n  if b {\n    try {\n      skip;\n    } catch {\n      for x in select a as x {\n        set x = 1;\n      }\n    }\n  } else {\n    raise;\n  }\n  skip;\n}\n": {
			Kind: api.StWhile, E: one(a), Body: one(api.Stmt{Kind: api.StIf, E: one(b),
				Body: one(tried(one(skip()), one(api.Stmt{Kind: api.StFor, Names: one("x"), Q: one(q), Body: one(set("x", num(1)))}))),
				Else: one(raise)}, skip())},
	}
}

func scriptSamples() map[string]api.Script {
	x, y, z := api.Var{Name: "x", Type: api.TyInt}, api.Var{Name: "y", Type: api.TyBool}, api.Var{Name: "z", Type: api.TyText}
	out := map[string]api.Script{
		"":                                       {},
		"var x int;\n":                           {Vars: one(x)},
		"var x int;\nvar y bool;\nvar z text;\n": {Vars: one(x, y, z)},
		"proc p() {\n}\n":                        {Procs: one(api.Proc{Name: "p"})},
		"proc count(x int) {\n}\n":               {Procs: one(api.Proc{Name: "count", Params: one(x)})},
		"proc p(x int, y bool, z text) {\n}\nproc q() {\n}\n": {Procs: one(api.Proc{Name: "p", Params: one(x, y, z)}, api.Proc{Name: "q"})},
		"proc p() {\n  var y bool;\n  var z text;\n}\n":       {Procs: one(api.Proc{Name: "p", Vars: one(y, z)})},
		"proc p() {\n  skip;\n  skip;\n}\n":                   {Procs: one(api.Proc{Name: "p", Body: one(skip(), skip())})},
		"var x int;\nproc p(y bool) {\n  var z text;\n  if :y {\n    print out :z;\n  }\n  skip;\n}\nset x = 1;\ncall p(true);\n": {
			Vars: one(x),
			Procs: one(api.Proc{Name: "p", Params: one(y), Vars: one(z), Body: one(
				api.Stmt{Kind: api.StIf, E: one(variable("y")), Body: one(api.Stmt{Kind: api.StPrint, Table: "out", E: one(variable("z"))})}, skip())}),
			Body: one(set("x", num(1)), api.Stmt{Kind: api.StCall, Table: "p", E: one(yes())})},
		"set x = 'a\nb';\nwhile a {\n  set x = 'c\nd';\n}\n": body(set("x", text("a\nb")), api.Stmt{Kind: api.StWhile, E: one(col("a")), Body: one(set("x", text("c\nd")))}),
	}
	for s, x := range stmtSamples() {
		out[s] = body(x)
	}
	return out
}

func schemaSamples() map[string]api.Schema {
	low, high := "low", "high"
	a := api.Col{Name: "a", Type: api.TyInt, Level: low}
	b := api.Col{Name: "b", Type: api.TyText, Null: true, Level: high}
	c := api.Col{Name: "c", Type: api.TyBool, Level: high}
	return map[string]api.Schema{
		"":                                 {},
		"levels low;\n":                    {Levels: one(low)},
		"levels low, high;\n":              {Levels: one(low, high)},
		"order low < high;\n":              {Edges: one(api.Pair{Low: low, High: high})},
		"channel out low;\n":               {Channels: one(api.Pair{Low: "out", High: low})},
		"channel a b;\nchannel c d;\n":     {Channels: one(api.Pair{Low: "a", High: "b"}, api.Pair{Low: "c", High: "d"})},
		"principal bob high;\n":            {Principals: one(api.Pair{Low: "bob", High: high})},
		"principal a b;\nprincipal c d;\n": {Principals: one(api.Pair{Low: "a", High: "b"}, api.Pair{Low: "c", High: "d"})},
		"limit 1;\n":                       {Limit: 1},
		"table t rows low (a int low);\n":  tables(api.Table{Name: "t", Rows: low, Cols: one(a)}),
		"table t rows l (a int l) hide h when not a;\n":                               hidden(not(col("a"))),
		"table t rows low (a int low, b text null high, c bool high) key (a);\n":      tables(api.Table{Name: "t", Rows: low, Cols: one(a, b, c), Key: one("a")}),
		"table t rows low (b text null high) key (a, b, c) hide high when b = 'x';\n": tables(api.Table{Name: "t", Rows: low, Cols: one(b), Key: one("a", "b", "c"), Hide: high, When: one(bin(col("b"), "=", text("x")))}),
		"table t rows l (a int l);\ntable t rows l (a int l);\n":                      tables(tableT(), tableT()),
		"levels low, mid, high;\norder low < mid;\norder mid < high;\ntable t rows low (a int low);\ntable u rows mid (c bool high) hide high when true;\nchannel out low;\nprincipal bob high;\nlimit 50;\n": {
			Levels: one(low, "mid", high), Edges: one(api.Pair{Low: low, High: "mid"}, api.Pair{Low: "mid", High: high}),
			Tables:   one(api.Table{Name: "t", Rows: low, Cols: one(a)}, api.Table{Name: "u", Rows: "mid", Cols: one(c), Hide: high, When: one(yes())}),
			Channels: one(api.Pair{Low: "out", High: low}), Principals: one(api.Pair{Low: "bob", High: high}), Limit: 50},
	}
}

// samples are all of them.
func samples() map[string][]any {
	out := map[string][]any{}
	for s, x := range exprSamples() {
		out[s] = append(out[s], x)
	}
	for s, x := range querySamples() {
		out[s] = append(out[s], x)
	}
	for s, x := range scriptSamples() {
		out[s] = append(out[s], x)
	}
	for s, x := range schemaSamples() {
		out[s] = append(out[s], x)
	}
	return out
}
