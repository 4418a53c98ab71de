package parse

import (
	"slices"

	"barbican/api"
	"barbican/lex"
	"barbican/table"
	"barbican/value"
)

// reader goes over the tokens of a text.
type reader struct {
	left []lex.Token // those that were not read yet
	end  int         // the place behind them
	bad  bool        // at the end stands a token with which nothing can go on
	deep bool        // an expression was too deep
}

// whole reads a text from its begin to its end.
func whole[T any](s string, read func(*reader) T) (T, int, error) {
	var none T
	tokens, at, err := lex.Lex(s)
	if err != nil {
		return none, at, err
	}
	r := &reader{left: tokens, end: at}
	x := read(r)
	if len(r.left) > 0 {
		r.fail()
	}
	switch {
	case r.bad:
		return none, r.end, api.ErrSyntax
	case r.deep:
		return none, 0, api.ErrDepth
	}
	return x, at, nil
}

// list reads what goes on with commas between.
func list[T any](r *reader, one func() T) []T {
	l := []T{one()}
	for r.has(",") {
		l = append(l, one())
	}
	return l
}

// next is the next token: of no kind, if none is left.
func (r *reader) next() lex.Token {
	if len(r.left) == 0 {
		return lex.Token{At: r.end}
	}
	return r.left[0]
}

// fail tells that nothing can go on with the next token.
// None is left then: so all that reads comes to its end, and the place stays that of the first fault.
func (r *reader) fail() {
	r.end = r.next().At
	r.left, r.bad = nil, true
}

// take reads the next token, which must be so.
func (r *reader) take(so func(lex.Token) bool) lex.Token {
	t := r.next()
	if !so(t) {
		r.fail()
		return lex.Token{}
	}
	r.left = r.left[1:]
	return t
}

// oneOf reads the next token, if it is one of these words and signs, and tells which: else the empty text.
func (r *reader) oneOf(texts ...string) string {
	if t := r.next(); !isMark(t) || !slices.Contains(texts, t.Text) {
		return ""
	}
	return r.take(isMark).Text
}

// has reads the next token, if it is this word or sign, and tells whether it is.
func (r *reader) has(text string) bool { return r.oneOf(text) != "" }

// must reads these words and signs, one behind the other.
func (r *reader) must(texts ...string) {
	for _, s := range texts {
		if !r.has(s) {
			r.fail()
		}
	}
}

func (r *reader) name() string { return r.take(isName).Text }

func isMark(t lex.Token) bool { return t.Kind == lex.Word || t.Kind == lex.Sign }

func isName(t lex.Token) bool { return t.Kind == lex.Word && table.Name(t.Text) }

func isNumber(t lex.Token) bool { return t.Kind == lex.Number }

// isText tells whether a token is a text that may be a value: a token may be longer.
func isText(t lex.Token) bool { return t.Kind == lex.Text && value.Valid(value.Text(t.Text)) == nil }

func isOperand(t lex.Token) bool { return isName(t) || isNumber(t) || isText(t) }
