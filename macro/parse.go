package macro

import (
	"slices"

	"palmette/api"
	"palmette/formula"
	"palmette/lexer"
)

// reader reads the head of a definition.
type reader struct {
	tokens []lexer.Token
	at     int
}

func (r *reader) accept(kind int, text string) bool {
	t := r.tokens[r.at]
	if t.Kind != kind || t.Text != text {
		return false
	}
	r.at++
	return true
}

func (r *reader) name() (string, bool) {
	t := r.tokens[r.at]
	if t.Kind != lexer.Ident {
		return "", false
	}
	r.at++
	return t.Text, true
}

func (r *reader) param() (formula.Var, bool) {
	for sort := formula.Vertex; sort <= formula.EdgeSet; sort++ {
		if r.accept(lexer.Keyword, formula.SortName(sort)) {
			name, ok := r.name()
			return formula.Var{Name: name, Sort: sort}, ok
		}
	}
	return formula.Var{}, false
}

// head reads a definition up to its colon.
func (r *reader) head() (Macro, bool) {
	if !r.accept(lexer.Keyword, "let") {
		return Macro{}, false
	}
	name, ok := r.name()
	if !ok || !r.accept(lexer.Punct, "(") {
		return Macro{}, false
	}
	m := Macro{Name: name}
	for !r.accept(lexer.Punct, ")") {
		if len(m.Params) > 0 && !r.accept(lexer.Punct, ",") {
			return Macro{}, false
		}
		p, ok := r.param()
		if !ok {
			return Macro{}, false
		}
		m.Params = append(m.Params, p)
	}
	return m, r.accept(lexer.Punct, ":")
}

// body reads the formula up to the next semicolon.
func (r *reader) body() (formula.Node, api.Errno) {
	n := slices.IndexFunc(r.tokens[r.at:], func(t lexer.Token) bool { return t.Kind == lexer.Punct && t.Text == ";" })
	if n < 0 {
		return formula.Node{}, api.ErrFormat
	}
	text, e := lexer.Join(r.tokens[r.at : r.at+n])
	if e != api.OK {
		return formula.Node{}, e
	}
	r.at += n + 1
	body, _, e := formula.ParseFormula(text)
	return body, e
}

// Parse returns the macro set whose text is s, or the index of the first invalid definition and its error.
func Parse(s string) (*Set, int, api.Errno) {
	tokens, _, e := lexer.Tokenize(s)
	if e != api.OK {
		return nil, 0, e
	}
	set := New()
	r := &reader{tokens: tokens}
	index := 0
definitions:
	for ; r.tokens[r.at].Kind != lexer.EOF; index++ {
		m, ok := r.head()
		if !ok {
			e = api.ErrFormat
			break definitions
		}
		if m.Body, e = r.body(); e != api.OK {
			break definitions
		}
		if e = set.Add(m); e != api.OK {
			break definitions
		}
	}
	if e != api.OK {
		return nil, index, e
	}
	return set, 0, api.OK
}
