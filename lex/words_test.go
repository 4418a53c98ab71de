package lex_test

import (
	"fmt"
	"math/big"
	"regexp"
	"slices"
	"strings"
	"testing"

	"barbican/api"
	"barbican/lex"
)

// What the chapter's words say, written once more in another way, to hold the package against.

// Tokens in short, at a place.
func word(s string, at int) lex.Token   { return lex.Token{Kind: 1, Text: s, At: at} }
func number(n, at int) lex.Token        { return lex.Token{Kind: 2, Int: n, At: at} }
func quoted(s string, at int) lex.Token { return lex.Token{Kind: 3, Text: s, At: at} }
func sign(s string, at int) lex.Token   { return lex.Token{Kind: 4, Text: s, At: at} }

// signs are all signs, those first that go on where another one ends.
func signs() []string {
	return []string{"<>", "<=", ">=", "||", "(", ")", ",", "*", "+", "-", "/", "%", "=", "<", ">"}
}

// blanks are the four of them.
func blanks() []string { return []string{" ", "\t", "\n", "\r"} }

var (
	blankForm  = regexp.MustCompile(`\A[\x20\x09\x0a\x0d]*`)
	wordForm   = regexp.MustCompile(`\A[A-Za-z][A-Za-z0-9_]*`)
	numberForm = regexp.MustCompile(`\A[0-9]+`)
	// A text's bytes are all that follow, as far as each quote is doubled; what stands behind them must end it.
	bodyForm  = regexp.MustCompile(`\A'((?:[\x20-\x26\x28-\x7e]|'')*)`)
	maxNumber = new(big.Int).Sub(new(big.Int).Lsh(big.NewInt(1), 63), big.NewInt(1))
)

// begins is the token at a text's begin and how many bytes it has there, by the chapter's words.
func begins(s string) (lex.Token, int, error) {
	if w := wordForm.FindString(s); w != "" {
		return word(strings.ToLower(w), 0), len(w), nil
	}
	if d := numberForm.FindString(s); d != "" {
		n, _ := new(big.Int).SetString(d, 10)
		if n.Cmp(maxNumber) > 0 {
			return lex.Token{}, 0, api.ErrOver
		}
		return number(int(n.Int64()), 0), len(d), nil
	}
	if b := bodyForm.FindStringSubmatch(s); b != nil {
		if !strings.HasPrefix(s[len(b[0]):], "'") {
			return lex.Token{}, 0, api.ErrForm
		}
		return quoted(strings.Join(strings.Split(b[1], "''"), "'"), 0), len(b[0]) + 1, nil
	}
	for _, g := range signs() {
		if strings.HasPrefix(s, g) {
			return sign(g, 0), len(g), nil
		}
	}
	return lex.Token{}, 0, api.ErrForm
}

// read is Lex by its words.
func read(s string) ([]lex.Token, int, error) {
	if len(s) > 65536 {
		return nil, 0, api.ErrLong
	}
	var out []lex.Token
	for at := 0; ; {
		at += len(blankForm.FindString(s[at:]))
		if at == len(s) {
			return out, at, nil
		}
		x, size, err := begins(s[at:])
		if err != nil {
			return nil, at, err
		}
		x.At = at
		out = append(out, x)
		at += size
	}
}

// told is the text of a token that can be one, by the words of LX2, and whether it can be one, by the words of what a token is.
func told(x lex.Token) (string, bool) {
	switch x.Kind {
	case 1:
		return x.Text, x.Int == 0 && wordForm.FindString(x.Text) == x.Text && x.Text != "" && strings.IndexFunc(x.Text, func(c rune) bool { return c >= 'A' && c <= 'Z' }) < 0
	case 2:
		return fmt.Sprint(x.Int), x.Text == "" && x.Int >= 0
	case 3:
		inner := strings.Join(strings.Split(x.Text, "'"), "''")
		return "'" + inner + "'", x.Int == 0 && !slices.ContainsFunc([]byte(x.Text), func(c byte) bool { return c < 32 || c > 126 })
	case 4:
		return x.Text, x.Int == 0 && slices.Contains(signs(), x.Text)
	}
	return "", false
}

// printed is Print by its words.
func printed(l []lex.Token) (string, error) {
	var texts []string
	for _, x := range l {
		s, can := told(x)
		if !can {
			return "", api.ErrForm
		}
		texts = append(texts, s)
	}
	return strings.Join(texts, " "), nil
}

// alike is Same by its words.
func alike(a, b []lex.Token) bool {
	if len(a) != len(b) {
		return false
	}
	for i := range a {
		if a[i].Kind != b[i].Kind || a[i].Text != b[i].Text || a[i].Int != b[i].Int {
			return false
		}
	}
	return true
}

// short tells a text, but not all of a long one.
func short(s string) string {
	if len(s) > 60 {
		return fmt.Sprintf("%q and so on, %d bytes", s[:60], len(s))
	}
	return fmt.Sprintf("%q", s)
}

// list tells tokens, but not all of many, and not all of a long one.
func list(l []lex.Token) string {
	var out []string
	for i, x := range l {
		if i == 12 {
			out = append(out, fmt.Sprintf("and so on, %d tokens", len(l)))
			break
		}
		out = append(out, fmt.Sprintf("%d:%d:%s:%d", x.At, x.Kind, short(x.Text), x.Int))
	}
	return "[" + strings.Join(out, " ") + "]"
}

// gives tells where Lex of a text does not answer these tokens.
func gives(t *testing.T, s string, want ...lex.Token) {
	t.Helper()
	if l, at, err := lex.Lex(s); !slices.Equal(l, want) || at != len(s) || err != nil {
		t.Errorf("Lex(%s): %s, %d, %v, not %s, %d", short(s), list(l), at, err, list(want), len(s))
	}
}

// refuses tells where Lex of a text does not answer this error and place, and nothing beside.
func refuses(t *testing.T, s string, place int, want error) {
	t.Helper()
	if l, at, err := lex.Lex(s); len(l) != 0 || at != place || err != want {
		t.Errorf("Lex(%s): %s, %d, %v, not %d, %v", short(s), list(l), at, err, place, want)
	}
}

// lexes tells where Lex of a text does not answer what the words say.
func lexes(t *testing.T, s string) {
	t.Helper()
	want, place, wrong := read(s)
	if l, at, err := lex.Lex(s); !slices.Equal(l, want) || at != place || err != wrong {
		t.Errorf("Lex(%s): %s, %d, %v, not %s, %d, %v", short(s), list(l), at, err, list(want), place, wrong)
	}
}

// prints tells where Print of tokens does not answer what the words say.
func prints(t *testing.T, l ...lex.Token) {
	t.Helper()
	want, wrong := printed(l)
	if s, err := lex.Print(l); s != want || err != wrong {
		t.Errorf("Print(%s): %s, %v, not %s, %v", list(l), short(s), err, short(want), wrong)
	}
}
