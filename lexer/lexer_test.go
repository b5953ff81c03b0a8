package lexer

import (
	"math/rand"
	"strings"
	"testing"

	"palmette/api"
)

const keywordText = "find some every vertex edge set edges true false not and or implies iff in sub adj on is one size mod least greatest ask let"

// P9.1.
func TestTokens(t *testing.T) {
	if strings.Join(Keywords(), " ") != keywordText {
		t.Error(Keywords())
	}
	l, p, e := Tokenize("some vertex x': x' is 7")
	want := []Token{{Keyword, "some", 0, Position{1, 1}}, {Keyword, "vertex", 0, Position{1, 6}}, {Ident, "x'", 0, Position{1, 13}}, {Punct, ":", 0, Position{1, 15}}, {Ident, "x'", 0, Position{1, 17}}, {Keyword, "is", 0, Position{1, 20}}, {Number, "7", 7, Position{1, 23}}, {EOF, "", 0, Position{1, 24}}}
	if len(l) != len(want) || p != (Position{}) || e != api.OK {
		t.Fatal(l, p, e)
	}
	for i, x := range want {
		if l[i] != x {
			t.Error(l[i], x)
		}
	}
	l, _, _ = Tokenize("a\n\t(b,\r\n2147483647)\n")
	if len(l) != 7 || l[2].Pos != (Position{2, 3}) || l[4].Pos != (Position{3, 1}) || l[4].Value != 2147483647 || l[6].Pos != (Position{4, 1}) {
		t.Error(l)
	}
	if l, _, e := Tokenize(""); len(l) != 1 || l[0] != (Token{Pos: Position{1, 1}}) || e != api.OK {
		t.Error(l)
	}
}

func TestErrors(t *testing.T) {
	for s, want := range map[string]struct {
		p Position
		e api.Errno
	}{
		"a 01": {Position{1, 3}, api.ErrFormat}, "a 1b": {Position{1, 3}, api.ErrFormat}, "00": {Position{1, 1}, api.ErrFormat},
		"99999999999b": {Position{1, 1}, api.ErrFormat}, "2147483648": {Position{1, 1}, api.ErrRange}, "'a": {Position{1, 1}, api.ErrFormat},
		"a\n b'; \n  -": {Position{3, 3}, api.ErrFormat}, "abcdefghijklmnop": {}, "abcdefghijklmnopq": {Position{1, 1}, api.ErrRange},
		"x abcdefghijklmnopq %": {Position{1, 3}, api.ErrRange}, "x % abcdefghijklmnopq": {Position{1, 3}, api.ErrFormat}, "\v": {Position{1, 1}, api.ErrFormat},
		"5'": {Position{1, 1}, api.ErrFormat}, "é": {Position{1, 1}, api.ErrFormat}, "a_b": {Position{1, 2}, api.ErrFormat}, "0": {}, "99999999999999999999999999": {Position{1, 1}, api.ErrRange},
		strings.Repeat(" ", 65536): {}, strings.Repeat("%", 65537): {Position{}, api.ErrRange},
	} {
		l, p, e := Tokenize(s)
		if p != want.p || e != want.e || e != api.OK && len(l) != 0 {
			t.Errorf("%.30q %v %d", s, p, e)
		}
	}
}

// P9.2.
func TestIsIdent(t *testing.T) {
	for s, want := range map[string]bool{"": false, "a": true, "Z9'": true, "9a": false, "'": false, "some": false, "Some": true, "finds": true, "a b": false, " a": false, "a ": false, "abcdefghijklmnop": true, "abcdefghijklmnopq": false, "a=": false} {
		if IsIdent(s) != want {
			t.Error(s)
		}
	}
	for _, k := range Keywords() {
		if IsIdent(k) || !IsIdent(k+"x") {
			t.Error(k)
		}
	}
}

// P9.3 to P9.5.
func TestJoin(t *testing.T) {
	r := rand.New(rand.NewSource(1))
	words := append(Keywords(), "x", "y2", "q'", "0", "17", "2147483647", "=", "(", ")", ",", ":", ";")
	for range 300 {
		var s strings.Builder
		for range r.Intn(20) {
			s.WriteString(words[r.Intn(len(words))] + strings.Repeat(" \n\t\r"[r.Intn(4):][:1], 1+r.Intn(3)))
		}
		l, _, e := Tokenize(s.String())
		text, f := Join(l)
		again, _, h := Tokenize(text)
		if e != api.OK || f != api.OK || h != api.OK || !Equal(l, again) || text != strings.Join(strings.Fields(s.String()), " ") {
			t.Fatal(s.String(), text)
		}
	}
	for _, x := range []struct {
		l    []Token
		s    string
		want api.Errno
	}{
		{nil, "", api.OK}, {[]Token{{}}, "", api.OK}, {[]Token{{Kind: Ident, Text: "a"}, {Kind: Punct, Text: ";"}, {}}, "a ;", api.OK}, {[]Token{{}, {}}, "", api.ErrFormat},
		{[]Token{{Kind: 5, Text: "a"}}, "", api.ErrFormat}, {[]Token{{Kind: -1}}, "", api.ErrFormat}, {[]Token{{Kind: Ident, Text: "some"}}, "", api.ErrFormat}, {[]Token{{Kind: Keyword, Text: "x"}}, "", api.ErrFormat},
		{[]Token{{Kind: Number, Text: "7", Value: 8}}, "", api.ErrFormat}, {[]Token{{Kind: Number, Text: "07", Value: 7}}, "", api.ErrFormat}, {[]Token{{Kind: Ident, Text: "a", Value: 1}}, "", api.ErrFormat}, {[]Token{{Kind: Punct, Text: ":;"}}, "", api.ErrFormat}, {[]Token{{Kind: Punct}}, "", api.ErrFormat}, {[]Token{{Kind: EOF, Text: "a"}}, "", api.ErrFormat}, {[]Token{{Kind: Ident, Text: "a b"}}, "", api.ErrFormat}, {[]Token{{Kind: Ident}}, "", api.ErrFormat}, {[]Token{{Kind: EOF, Value: 1}}, "", api.ErrFormat}, {[]Token{{Kind: Punct, Text: "=", Value: 1}}, "", api.ErrFormat},
	} {
		if s, e := Join(x.l); s != x.s || e != x.want {
			t.Error(x, s, e)
		}
	}
	a := []Token{{Kind: Ident, Text: "a", Pos: Position{1, 1}}}
	if !Equal(a, []Token{{Kind: Ident, Text: "a", Pos: Position{9, 9}}}) || Equal(a, nil) || Equal(a, []Token{{Kind: Ident, Text: "b"}}) || Equal(a, []Token{{Kind: Keyword, Text: "a"}}) || Equal(a, []Token{{Kind: Ident, Text: "a", Value: 1}}) || !Equal(nil, []Token{}) {
		t.Error("Equal")
	}
}
