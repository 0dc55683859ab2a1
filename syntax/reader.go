package syntax

import (
	"cordon/api"
	"cordon/token"
)

// reader goes over the tokens of a text, of which the last one is the end. Once something is refused the end alone is left: nothing can be taken any more, so all that is being read comes to its end without asking whether it may go on.
type reader struct {
	left []api.Token
	deep int
	at   int
	err  api.Errno
}

// whole reads all of a text. A text that can't be parted has no tokens, so that is told ahead of all else.
func whole[T any](s string, read func(r *reader) T) (T, int, api.Errno) {
	var none T
	tokens, at, err := token.Scan(s)
	if err != api.OK {
		return none, at, err
	}
	r := &reader{left: tokens}
	out := deeper(r, func() T { return read(r) })
	if r.left[0].Kind != api.TkEnd {
		r.refuse(api.ErrForm)
	}
	if r.err != api.OK {
		return none, r.at, r.err
	}
	return out, 0, api.OK
}

// deeper reads what stands one deeper. It does not look at the token first: of one that is both too deep and wrong, too deep is told.
func deeper[T any](r *reader, read func() T) T {
	if r.deep == api.MaxNest {
		r.refuse(api.ErrDeep)
		var none T
		return none
	}
	r.deep++
	out := read()
	r.deep--
	return out
}

// list reads one or more, with a mark between.
func list[T any](r *reader, mark string, read func() T) []T {
	out := []T{read()}
	for r.take(mark) {
		out = append(out, read())
	}
	return out
}

// each reads as many as begin with a word.
func each[T any](r *reader, word string, read func() T) []T {
	var out []T
	for r.take(word) {
		out = append(out, read())
	}
	return out
}

// behind reads what stands behind a word, if that is there.
func behind[T any](r *reader, word string, read func() T) []T {
	if !r.take(word) {
		return nil
	}
	return []T{read()}
}

func inBrackets[T any](r *reader, read func() T) T {
	r.want("(")
	out := read()
	r.want(")")
	return out
}

// listInBrackets reads none or more, with commas between.
func listInBrackets[T any](r *reader, read func() T) []T {
	return inBrackets(r, func() []T {
		if r.sees(")") {
			return nil
		}
		return list(r, ",", read)
	})
}

// fromLeft puts what stands behind each of some marks to all that was read ahead of it.
func fromLeft[T any](r *reader, left T, more func(left T, mark string) T, marks ...string) T {
again:
	if mark, ok := r.takeAny(marks...); ok {
		left = more(left, mark)
		goto again
	}
	return left
}

// refuse keeps what is wrong first, and the place of the token that is next.
func (r *reader) refuse(err api.Errno) {
	if r.err != api.OK {
		return
	}
	r.at, r.err = r.left[0].At, err
	r.left = r.left[len(r.left)-1:]
}

// sees tells whether a word or a mark is next. It looks at the kind, since a text may say what a word is.
func (r *reader) sees(what string) bool {
	t := r.left[0]
	return t.Text == what && (t.Kind == api.TkName || t.Kind == api.TkMark)
}

func (r *reader) take(what string) bool {
	_, ok := r.takeAny(what)
	return ok
}

// takeAny never takes the end, which is neither a word nor a mark: so a token is always left.
func (r *reader) takeAny(whats ...string) (string, bool) {
	for _, what := range whats {
		if r.sees(what) {
			r.left = r.left[1:]
			return what, true
		}
	}
	return "", false
}

// takeKind is not asked for the end.
func (r *reader) takeKind(kind int) bool {
	if r.left[0].Kind != kind {
		return false
	}
	r.left = r.left[1:]
	return true
}

// want takes what must be next.
func (r *reader) want(what string) {
	if !r.take(what) {
		r.refuse(api.ErrForm)
	}
}

func (r *reader) name() string {
	name := r.left[0].Text
	if token.Word(name) || !r.takeKind(api.TkName) {
		r.refuse(api.ErrForm)
		return ""
	}
	return name
}

func (r *reader) number() int {
	n := r.left[0].N
	if !r.takeKind(api.TkInt) {
		r.refuse(api.ErrForm)
		return 0
	}
	return n
}

func (r *reader) valueType() int {
	word, _ := r.takeAny("int", "bool", "text")
	switch word {
	case "int":
		return api.TyInt
	case "bool":
		return api.TyBool
	case "text":
		return api.TyText
	}
	r.refuse(api.ErrForm)
	return api.TyNull
}
