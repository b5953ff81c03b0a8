package fixpoint

import (
	"palmette/api"
	"palmette/formula"
	"palmette/lexer"
)

// reader reads the source of a program.
type reader struct {
	source string
	tokens []lexer.Token
	at     int
	lines  map[int]int // the offset of the first byte of each line
}

func newReader(s string, tokens []lexer.Token) *reader {
	r := &reader{source: s, tokens: tokens, lines: map[int]int{1: 0}}
	line := 1
	for i := range len(s) {
		if s[i] == '\n' {
			line++
			r.lines[line] = i + 1
		}
	}
	return r
}

func (r *reader) offset(p lexer.Position) int { return r.lines[p.Line] + p.Col - 1 }

func (r *reader) here() lexer.Position { return r.tokens[r.at].Pos }

// accept reads a keyword or a punctuation mark.
func (r *reader) accept(text string) bool {
	t := r.tokens[r.at]
	if t.Text != text || t.Kind != lexer.Keyword && t.Kind != lexer.Punct {
		return false
	}
	r.at++
	return true
}

func (r *reader) name(into *string) bool {
	t := r.tokens[r.at]
	if t.Kind != lexer.Ident {
		return false
	}
	*into = t.Text
	r.at++
	return true
}

// head reads a rule up to its colon; its keyword has been read.
func (r *reader) head(x *Rule) bool {
	return r.name(&x.Set) && r.accept("(") && r.name(&x.Var) && r.accept(")") && r.accept(":")
}

// translate returns the position in the whole source of a position in the part that starts behind a token.
func translate(p lexer.Position, behind lexer.Token) lexer.Position {
	switch p.Line {
	case 0:
		return lexer.Position{}
	case 1:
		return lexer.Position{Line: behind.Pos.Line, Col: behind.Pos.Col + len(behind.Text) + p.Col - 1}
	}
	return lexer.Position{Line: behind.Pos.Line + p.Line - 1, Col: p.Col}
}

// body reads the formula from behind the last token up to the next semicolon.
func (r *reader) body() (formula.Node, lexer.Position, api.Errno) {
	before := r.tokens[r.at-1]
	for r.tokens[r.at].Kind != lexer.EOF && !(r.tokens[r.at].Kind == lexer.Punct && r.tokens[r.at].Text == ";") {
		r.at++
	}
	part := r.source[r.offset(before.Pos)+len(before.Text) : r.offset(r.here())]
	n, p, e := formula.ParseFormula(part)
	if e != api.OK {
		return formula.Node{}, translate(p, before), e
	}
	if end := r.here(); !r.accept(";") {
		return formula.Node{}, end, api.ErrFormat
	}
	return n, lexer.Position{}, api.OK
}

// Parse returns the program whose source is s.
func Parse(s string) (Program, lexer.Position, api.Errno) {
	tokens, p, e := lexer.Tokenize(s)
	if e != api.OK {
		return Program{}, p, e
	}
	r := newReader(s, tokens)
	var program Program
	for !r.accept("ask") {
		x := Rule{Greatest: r.accept("greatest")}
		if !x.Greatest && !r.accept("least") || !r.head(&x) {
			return Program{}, r.here(), api.ErrFormat
		}
		if x.Body, p, e = r.body(); e != api.OK {
			return Program{}, p, e
		}
		program.Rules = append(program.Rules, x)
	}
	ask := tokens[r.at-1]
	program.Query, p, e = formula.Parse(s[r.offset(ask.Pos)+len(ask.Text):])
	if e != api.OK {
		return Program{}, translate(p, ask), e
	}
	return program, lexer.Position{}, api.OK
}
