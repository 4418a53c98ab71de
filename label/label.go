// Package label is layer 1: labels: ranks and categories; which dominates which: see shared/doc/01-label.md.
package label

import (
	"strconv"
	"strings"

	"barbican/api"
)

// Valid is an error, if a label can't be.
func Valid(l api.Label) error {
	if l.Rank < 0 || l.Rank > api.MaxRank || l.Cats>>api.MaxCats != 0 {
		return api.ErrLabel
	}
	return nil
}

// Dominates tells whether what lies at b may be read at a.
func Dominates(a, b api.Label) bool {
	return a.Rank >= b.Rank && b.Cats&^a.Cats == 0
}

// Join is the lowest label that dominates both.
func Join(a, b api.Label) api.Label {
	return api.Label{Rank: max(a.Rank, b.Rank), Cats: a.Cats | b.Cats}
}

// Meet is the highest label that both dominate.
func Meet(a, b api.Label) api.Label {
	return api.Label{Rank: min(a.Rank, b.Rank), Cats: a.Cats & b.Cats}
}

// Compare tells how two labels lie to each other: 0 the same, 1 above, -1 below, 2 neither.
func Compare(a, b api.Label) int {
	switch {
	case a == b:
		return 0
	case Dominates(a, b):
		return 1
	case Dominates(b, a):
		return -1
	}
	return 2
}

// Text is a label as a text.
func Text(l api.Label) (string, error) {
	if err := Valid(l); err != nil {
		return "", err
	}
	s := strconv.Itoa(l.Rank)
	if l.Cats != 0 {
		s += ":" + letters(l.Cats)
	}
	return s, nil
}

// Parse is the label of a text.
func Parse(s string) (api.Label, error) {
	digits, cats, _ := strings.Cut(s, ":")
	rank, err := strconv.Atoi(digits)
	if err != nil {
		return api.Label{}, api.ErrForm
	}
	l := api.Label{Rank: rank, Cats: bitsOf(cats)}
	// What was read may have been loose (signs, noughts, letters twice or out of order, other bytes): a label has one Text alone, and only that one is let in.
	if t, err := Text(l); err != nil || t != s {
		return api.Label{}, api.ErrForm
	}
	return l, nil
}

// letters tells the letters of categories, in order.
func letters(cats uint32) string {
	var b strings.Builder
	for i := range api.MaxCats {
		if cats&(1<<i) != 0 {
			b.WriteByte(letter(i))
		}
	}
	return b.String()
}

// bitsOf sets the bit of each letter that stands in s, wherever it stands.
func bitsOf(s string) uint32 {
	var cats uint32
	for i := range api.MaxCats {
		if strings.IndexByte(s, letter(i)) >= 0 {
			cats |= 1 << i
		}
	}
	return cats
}

// letter is the letter of the category with the bit i.
func letter(i int) byte { return 'a' + byte(i) }
