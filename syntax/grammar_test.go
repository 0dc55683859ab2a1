package syntax_test

import (
	"strings"
	"testing"

	"cordon/api"
	"cordon/token"
)

// grammar is the chapter's, one rule a line. Names of rules begin with a great letter; marks stand in "; ^ is ahead of what is one deeper; ?select stands ahead of what is there just if select is next; AGG is count, sum, min or max.
const grammar = `
Expr = And { or And }
And = Not { and Not }
Not = not ^Not | Cmp
Cmp = Sum [ ( "=" | "<>" | "<" | "<=" | ">" | ">=" ) Sum | is [ not ] null | [ not ] in "(" ^Query ")" ]
Sum = Prod { ( "+" | "-" | "||" ) Prod }
Prod = Unary { ( "*" | "/" | "%" ) Unary }
Unary = "-" ^Unary | Prim
Prim = INT | TEXT | null | true | false | ":" NAME | "(" ?select ^Query ")" | "(" ^Expr ")" | case when ^Expr then ^Expr else ^Expr end | exists "(" ^Query ")" | count "(" "*" ")" | AGG "(" ^Expr ")" | NAME "." NAME | NAME
Query = Part { ( union [ all ] | except | intersect ) Part }
Part = "(" ^Query ")" | select [ distinct ] Item { "," Item } [ from Src ] [ where ^Expr ] [ group by ^Expr { "," ^Expr } [ having ^Expr ] ] [ order by Key { "," Key } ] [ limit INT ]
Item = ^Expr as NAME
Key = ^Expr [ desc ]
Src = One { [ left ] join One on ^Expr }
One = NAME [ visible ] [ as NAME ] | "(" ^Query ")" as NAME
Script = { Decl } { Proc } { Stmt }
Decl = var NAME Type ";"
Type = int | bool | text
Proc = proc NAME "(" [ NAME Type { "," NAME Type } ] ")" "{" { Decl } { Stmt } "}"
Block = "{" { Stmt } "}"
Stmt = set NAME "=" ^Expr ";" | if ^Expr ^Block [ else ^Block ] | while ^Expr ^Block | for NAME { "," NAME } in ^Query ^Block | print NAME ^Expr ";" | input NAME ";" | insert into NAME values "(" ^Expr { "," ^Expr } ")" ";" | insert into NAME ^Query ";" | update NAME set NAME "=" ^Expr { "," NAME "=" ^Expr } [ where ^Expr ] ";" | delete from NAME [ where ^Expr ] ";" | try ^Block catch ^Block | raise ";" | call NAME "(" [ ^Expr { "," ^Expr } ] ")" ";" | begin ";" | commit ";" | rollback ";" | skip ";"
Schema = { levels NAME { "," NAME } ";" | order NAME "<" NAME { "<" NAME } ";" | table NAME rows NAME "(" Col { "," Col } ")" [ key "(" NAME { "," NAME } ")" ] [ hide NAME when ^Expr ] ";" | channel NAME NAME ";" | principal NAME NAME ";" | limit INT ";" }
Col = NAME Type [ null ] NAME
`

// The shapes of pieces of rules.
const (
	leaf     = iota // a token
	ahead           // no token, but select is next
	rule            // by its name
	sequence        // all of subs
	choices         // one of subs
	perhaps         // subs[0] or nothing
	repeated        // subs[0] any number of times
)

type piece struct {
	shape  int
	what   string
	deeper bool
	subs   []*piece
}

// rules are the grammar's, by their names.
func rules() map[string]*piece {
	out := map[string]*piece{}
	for _, line := range strings.Split(strings.TrimSpace(grammar), "\n") {
		name, right, _ := strings.Cut(line, " = ")
		rest := strings.Fields(right)
		out[name] = ruleChoices(&rest)
	}
	return out
}

func ruleChoices(rest *[]string) *piece {
	out := &piece{shape: choices}
	one := &piece{shape: sequence}
	for len(*rest) > 0 {
		s := (*rest)[0]
		*rest = (*rest)[1:]
		switch {
		case s == "|":
			out.subs = append(out.subs, one)
			one = &piece{shape: sequence}
		case s == ")" || s == "]" || s == "}":
			out.subs = append(out.subs, one)
			return out
		case s == "(":
			one.subs = append(one.subs, ruleChoices(rest))
		case s == "[":
			one.subs = append(one.subs, &piece{shape: perhaps, subs: []*piece{ruleChoices(rest)}})
		case s == "{":
			one.subs = append(one.subs, &piece{shape: repeated, subs: []*piece{ruleChoices(rest)}})
		case s == "?select":
			one.subs = append(one.subs, &piece{shape: ahead, what: "select"})
		default:
			one.subs = append(one.subs, rulePart(s))
		}
	}
	out.subs = append(out.subs, one)
	return out
}

func rulePart(s string) *piece {
	name, deeper := strings.CutPrefix(s, "^")
	if c := name[0]; c >= 'A' && c <= 'Z' && name != strings.ToUpper(name) {
		return &piece{shape: rule, what: name, deeper: deeper}
	}
	return &piece{shape: leaf, what: strings.Trim(name, `"`)}
}

// fits tells whether a leaf is a token.
func fits(what string, t api.Token) bool {
	switch what {
	case "NAME":
		return t.Kind == api.TkName && !strings.Contains(" "+words+" ", " "+t.Text+" ")
	case "INT":
		return t.Kind == api.TkInt
	case "TEXT":
		return t.Kind == api.TkText
	case "AGG":
		return t.Kind == api.TkName && strings.Contains(" count sum min max ", " "+t.Text+" ")
	case "END":
		return t.Kind == api.TkEnd
	}
	return (t.Kind == api.TkName || t.Kind == api.TkMark) && t.Text == what
}

// place is what is still to come in one way to read the tokens so far: a piece, how deep it stands, and what comes behind it.
type place struct {
	p    *piece
	deep int
	next *place
}

// judge reads tokens in all ways that the grammar has, side by side.
type judge struct {
	rules map[string]*piece
	ways  []*place
}

func (j *judge) begin(start string) {
	end := &place{p: &piece{shape: leaf, what: "END"}}
	j.ways = []*place{{p: &piece{shape: rule, what: start}, deep: 1, next: end}}
}

// step goes on with a token. Where it fits nowhere, but something too deep could begin there, it is too deep.
func (j *judge) step(t api.Token) api.Errno {
	var on []*place
	tooDeep := false
	var look func(w *place)
	look = func(w *place) {
		behind := func(p *piece, next *place) *place { return &place{p: p, deep: w.deep, next: next} }
		switch w.p.shape {
		case leaf:
			if fits(w.p.what, t) {
				on = append(on, w.next)
			}
		case ahead:
			if fits(w.p.what, t) {
				look(w.next)
			}
		case rule:
			deep := w.deep
			if w.p.deeper {
				deep++
			}
			if deep > api.MaxNest {
				tooDeep = true
				return
			}
			look(&place{p: j.rules[w.p.what], deep: deep, next: w.next})
		case sequence:
			next := w.next
			for i := len(w.p.subs) - 1; i >= 0; i-- {
				next = behind(w.p.subs[i], next)
			}
			look(next)
		case choices:
			for _, p := range w.p.subs {
				look(behind(p, w.next))
			}
		case perhaps:
			look(behind(w.p.subs[0], w.next))
			look(w.next)
		case repeated:
			look(behind(w.p.subs[0], w))
			look(w.next)
		}
	}
	for _, w := range j.ways {
		look(w)
	}
	j.ways = on
	switch {
	case len(on) > 0:
		return api.OK
	case tooDeep:
		return api.ErrDeep
	}
	return api.ErrForm
}

// judged is what must be answered of a text, but for what is read.
func (j *judge) judged(start, s string) (int, api.Errno) {
	tokens, at, err := token.Scan(s)
	if err != api.OK {
		return at, err
	}
	j.begin(start)
	for _, t := range tokens {
		if err := j.step(t); err != api.OK {
			return t.At, err
		}
	}
	return 0, api.OK
}

func (j *judge) holds(t *testing.T, r read, s string) {
	t.Helper()
	wantAt, wantErr := j.judged(r.start, s)
	got, at, err := r.call(s)
	if at != wantAt || err != wantErr {
		t.Errorf("%s %q: %d %v, want %d %v", r.name, short(s), at, err, wantAt, wantErr)
	}
	if err != api.OK && !isZero(got) {
		t.Errorf("%s %q: %v and %s", r.name, short(s), err, short(told(got)))
	}
}

// ordinary are texts that have each of the grammar's parts.
func ordinary() map[string][]read {
	return map[string][]read{
		"a + b * - c - 1 || 'x' % t . d / :v":                                                   {exprs()},
		"not a = 1 and b <> 2 or c is not null and not not d is null":                           {exprs()},
		"case when a < 1 then ( b ) else ( select c as x from t ) end >= count ( * )":           {exprs()},
		"exists ( select 1 as x ) or a in ( ( select b as x ) ) and c not in ( select d as x )": {exprs()},
		"sum ( a ) + min ( b . c ) - max ( - d ) <= count ( null ) * ( true )":                  {exprs()},
		"select distinct a as x , b + 1 as y from t visible as u left join ( select c as z ) as v on a = z join w on true where a > 0 group by a , b having count ( * ) > 1 order by x desc , y limit 5":                         {queries()},
		"select a as x union all ( select b as x except select c as x ) intersect select d as x limit 1 union select e as x":                                                                                                     {queries()},
		"var x int ; var y text ; proc p ( a int , b bool ) { var z text ; set z = 'q' ; } proc q ( ) { } set x = 1 ; call p ( 1 , true ) ; call q ( ) ;":                                                                        {scripts()},
		"if a { skip ; } else { raise ; } while b { begin ; commit ; rollback ; } for x , y in select a as x from t { print out x ; } try { input x ; } catch { }":                                                               {scripts()},
		"insert into t values ( 1 , a ) ; insert into t select a as x ; insert into t ( select b as y ) ; update t set a = 1 , b = 2 where c ; update t set a = 1 ; delete from t where a ; delete from t ;":                     {scripts()},
		"levels low , high ; order low < mid < high ; table t rows low ( a int low , b text null high ) key ( a , b ) hide high when a = 1 ; table u rows low ( c bool low ) ; channel out low ; principal bob high ; limit 7 ;": {schemas()},
		"": {scripts(), schemas()},
	}
}

// alphabet is all words, all marks, and names, numbers and texts.
func alphabet() []string {
	return strings.Fields(words + " " + marks + " foo count sum min max 0 17 '' 'select' '('")
}

// A token too few, one too many, and another one, at every place.
func TestEveryPlace(t *testing.T) {
	j := &judge{rules: rules()}
	for s, calls := range ordinary() {
		for _, r := range calls {
			if _, at, err := r.call(s); at != 0 || err != api.OK {
				t.Errorf("%s %q: %d %v, want it read", r.name, s, at, err)
			}
		}
		tokens := strings.Fields(s)
		for _, r := range allFour() {
			j.holds(t, r, s)
			for i := range tokens {
				j.holds(t, r, strings.Join(tokens[:i], " "))
				j.holds(t, r, strings.Join(tokens[i:], " "))
				j.holds(t, r, strings.Join(tokens[:i], " ")+" "+strings.Join(tokens[i+1:], " "))
			}
		}
		for _, r := range calls {
			for i := range len(tokens) + 1 {
				front := strings.Join(tokens[:i], " ")
				for _, a := range alphabet() {
					j.holds(t, r, front+" "+a+" "+strings.Join(tokens[i:], " "))
					if i < len(tokens) {
						j.holds(t, r, front+" "+a+" "+strings.Join(tokens[i+1:], " "))
					}
				}
			}
		}
	}
}

// All short texts.
func TestShortTexts(t *testing.T) {
	j := &judge{rules: rules()}
	for _, r := range allFour() {
		j.holds(t, r, "")
		for _, a := range alphabet() {
			j.holds(t, r, a)
			for _, b := range alphabet() {
				j.holds(t, r, a+" "+b)
			}
		}
	}
	small := strings.Fields("a 1 ( ) - not * count is null in select as , .")
	for _, a := range small {
		for _, b := range small {
			for _, c := range small {
				for _, d := range small {
					j.holds(t, exprs(), a+" "+b+" "+c+" "+d)
				}
			}
		}
	}
}
