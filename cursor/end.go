package cursor

import (
	"strings"

	"barbican/tree"
)

const hexDigits = "0123456789abcdef"

// end is where a range begins, or where it ends; zero, if it goes on without one.
type end struct {
	text      string
	has, open bool
}

// fromOf is where a range begins: nothing of it is left, where it has no such end.
func fromOf(r Range) end {
	if !r.HasFrom {
		return end{}
	}
	return end{r.From, true, r.OpenFrom}
}

// toOf is where a range ends, in the same way.
func toOf(r Range) end {
	if !r.HasTo {
		return end{}
	}
	return end{r.To, true, r.OpenTo}
}

// narrower is the one of two ends that lets fewer keys in. That is the greater text where side is 1, the lesser one where it is -1.
func narrower(a, b end, side int) end {
	apart := side * strings.Compare(a.text, b.text)
	switch {
	case !a.has:
		return b
	case !b.has:
		return a
	case apart > 0 || apart == 0 && a.open:
		return a
	}
	return b
}

// behindFrom tells whether a key does not lie ahead of a range.
func behindFrom(r Range, key string) bool {
	return !r.HasFrom || key > r.From || key == r.From && !r.OpenFrom
}

// aheadOfTo tells whether a key does not lie behind a range.
func aheadOfTo(r Range, key string) bool {
	return !r.HasTo || key < r.To || key == r.To && !r.OpenTo
}

// least is the first key of a tree that does not lie ahead of a range.
func least[V any](t *tree.Tree[V], r Range) (string, V, bool) {
	if !r.HasFrom {
		return t.First()
	}
	return t.From(r.From, r.OpenFrom)
}

// greatest is the last key of a tree that does not lie behind a range.
func greatest[V any](t *tree.Tree[V], r Range) (string, V, bool) {
	if !r.HasTo {
		return t.Last()
	}
	return t.To(r.To, r.OpenTo)
}

// appendDigits lays each byte of a text behind others, as two digits.
func appendDigits(out []byte, text string) []byte {
	for i := range len(text) {
		out = append(out, hexDigits[text[i]>>4], hexDigits[text[i]&15])
	}
	return out
}
