package formula

import (
	"slices"

	"palmette/api"
	"palmette/lexer"
)

// maxLevels is the number of nesting levels that may be open at the same time.
const maxLevels = 256

// parser reads tokens from the left. After the first error it presents no more tokens, so that all functions return.
type parser struct {
	tokens []lexer.Token
	at     int
	levels int
	failed bool
	pos    lexer.Position
	err    api.Errno
	words  map[string]atom // what may follow a name
}

// atom describes a kind of atom that starts with a name: how the rest of it, behind a token, is parsed.
type atom struct {
	parse func(p *parser, name string) Node
}

func atoms() map[string]atom {
	binary := func(op int) atom {
		return atom{func(p *parser, name string) Node { return Node{Op: op, Names: []string{name, p.name()}} }}
	}
	return map[string]atom{
		"=":   binary(Equals),
		"in":  binary(Member),
		"sub": binary(Subset),
		"adj": binary(Adjacent),
		"on":  binary(Incident),
		"is": {func(p *parser, name string) Node {
			return Node{Op: HasLabel, Names: []string{name}, N: p.number(0, maxLabel)}
		}},
		"(": {func(p *parser, name string) Node { return Node{Op: Call, Names: p.arguments(name)} }},
	}
}

func (p *parser) peek() lexer.Token {
	if p.failed {
		return lexer.Token{Kind: -1}
	}
	return p.tokens[p.at]
}

func (p *parser) fail(e api.Errno) {
	if !p.failed {
		p.failed, p.err, p.pos = true, e, p.tokens[p.at].Pos
	}
}

// is reports whether the next token is a keyword or a punctuation mark.
func (p *parser) is(text string) bool {
	t := p.peek()
	return t.Text == text && (t.Kind == lexer.Keyword || t.Kind == lexer.Punct)
}

func (p *parser) accept(text string) bool {
	if !p.is(text) {
		return false
	}
	p.at++
	return true
}

func (p *parser) expect(text string) {
	if !p.accept(text) {
		p.fail(api.ErrFormat)
	}
}

// checkedName reads a name that satisfies a check.
func (p *parser) checkedName(check func(name string) api.Errno) string {
	t := p.peek()
	e := api.ErrFormat
	if t.Kind == lexer.Ident {
		e = check(t.Text)
	}
	if e != api.OK {
		p.fail(e)
		return ""
	}
	p.at++
	return t.Text
}

func (p *parser) name() string {
	return p.checkedName(func(string) api.Errno { return api.OK })
}

func (p *parser) number(least, most int) int {
	t := p.peek()
	switch {
	case t.Kind != lexer.Number:
		p.fail(api.ErrFormat)
	case t.Value < least || t.Value > most:
		p.fail(api.ErrRange)
	default:
		p.at++
	}
	return t.Value
}

func (p *parser) sort() int {
	for sort := Vertex; sort <= EdgeSet; sort++ {
		if p.accept(SortName(sort)) {
			return sort
		}
	}
	p.fail(api.ErrFormat)
	return 0
}

// nested parses an operand behind a token that opens a level.
func (p *parser) nested(parse func() Node) Node {
	if p.levels == maxLevels {
		p.fail(api.ErrDepth)
		return Node{}
	}
	p.at++
	p.levels++
	n := parse()
	p.levels--
	return n
}

func (p *parser) arguments(name string) []string {
	names := []string{name}
	if p.accept(")") {
		return names
	}
	for !p.failed {
		names = append(names, p.checkedName(func(string) api.Errno {
			if len(names) > maxArguments {
				return api.ErrLimit
			}
			return api.OK
		}))
		if p.accept(")") {
			break
		}
		p.expect(",")
	}
	return names
}

// primary parses an atom, a negation, a quantifier or a formula in parentheses.
func (p *parser) primary() Node {
	switch {
	case p.is("not"):
		return p.nested(func() Node { return Node{Op: Not, L: []Node{p.primary()}} })
	case p.is("some"):
		return p.nested(func() Node { return p.quantifier(Exists) })
	case p.is("every"):
		return p.nested(func() Node { return p.quantifier(ForAll) })
	case p.is("("):
		return p.nested(func() Node {
			n := p.formula()
			p.expect(")")
			return n
		})
	case p.accept("true"):
		return Node{Op: True}
	case p.accept("false"):
		return Node{Op: False}
	case p.accept("one"):
		return Node{Op: Singleton, Names: []string{p.name()}}
	case p.accept("size"):
		return p.size()
	}
	name := p.name()
	t := p.peek()
	a, is := p.words[t.Text]
	if !is || t.Kind == lexer.Ident {
		p.fail(api.ErrFormat)
		return Node{}
	}
	p.at++
	return a.parse(p, name)
}

func (p *parser) size() Node {
	n := Node{Op: SizeMod, Names: []string{p.name()}}
	p.expect("mod")
	n.M = p.number(1, maxModulus)
	p.expect("is")
	n.N = p.number(0, n.M-1)
	return n
}

func (p *parser) quantifier(op int) Node {
	n := Node{Op: op, Sort: p.sort(), Names: []string{p.name()}}
	p.expect(":")
	n.L = []Node{p.formula()}
	return n
}

// leftward parses operands of an operation that associates to the left; tighter parses an operand.
func (p *parser) leftward(op int, word string, tighter func() Node) Node {
	n := tighter()
	for p.accept(word) {
		n = Node{Op: op, L: []Node{n, tighter()}}
	}
	return n
}

// rightward is like leftward, for an operation that associates to the right.
func (p *parser) rightward(op int, word string, tighter func() Node) Node {
	n := tighter()
	if p.accept(word) {
		n = Node{Op: op, L: []Node{n, p.rightward(op, word, tighter)}}
	}
	return n
}

func (p *parser) formula() Node {
	conjunction := func() Node { return p.leftward(And, "and", p.primary) }
	disjunction := func() Node { return p.leftward(Or, "or", conjunction) }
	implication := func() Node { return p.rightward(Implies, "implies", disjunction) }
	return p.leftward(Iff, "iff", implication)
}

// free parses the declarations of free variables.
func (p *parser) free() []Var {
	var l []Var
	for !p.failed {
		v := Var{Sort: p.sort()}
		v.Name = p.checkedName(func(name string) api.Errno {
			switch {
			case len(l) == MaxFree:
				return api.ErrLimit
			case slices.ContainsFunc(l, func(o Var) bool { return o.Name == name }):
				return api.ErrDuplicate
			}
			return api.OK
		})
		l = append(l, v)
		if p.accept(":") {
			break
		}
		p.expect(",")
	}
	return l
}

// parse parses a whole source text by a function.
func parse(s string, by func(p *parser) Query) (Query, lexer.Position, api.Errno) {
	tokens, pos, e := lexer.Tokenize(s)
	if e != api.OK {
		return Query{}, pos, e
	}
	p := &parser{tokens: tokens, words: atoms()}
	q := by(p)
	if p.peek().Kind != lexer.EOF {
		p.fail(api.ErrFormat)
	}
	if p.failed {
		return Query{}, p.pos, p.err
	}
	if e := checkSize(q.Body); e != api.OK {
		return Query{}, lexer.Position{}, e
	}
	return q, lexer.Position{}, api.OK
}

// Parse returns the query whose text is s, or the position of the first erroneous token and its error.
func Parse(s string) (Query, lexer.Position, api.Errno) {
	return parse(s, func(p *parser) Query {
		var q Query
		if p.accept("find") {
			q.Free = p.free()
		}
		q.Body = p.formula()
		return q
	})
}

// ParseFormula returns the formula whose text is s, or the position of the first erroneous token and its error.
func ParseFormula(s string) (Node, lexer.Position, api.Errno) {
	q, pos, e := parse(s, func(p *parser) Query { return Query{Body: p.formula()} })
	return q.Body, pos, e
}
