package term

import (
	"strconv"

	"palmette/api"
	"palmette/decimal"
)

const (
	maxText   = 1 << 20
	maxNumber = 1 << 30
	maxLabel  = 255
)

const opLetters = "nvejfm"

func appendNumbers(b []byte, l ...int) []byte {
	for i, n := range l {
		if i > 0 {
			b = append(b, ',')
		}
		b = strconv.AppendInt(b, int64(n), 10)
	}
	return b
}

func appendTerm(b []byte, t Term) []byte {
	b = append(b, opLetters[t.Op])
	switch t.Op {
	case Vertex:
		b = appendNumbers(b, t.P, t.Id, int(t.Label), t.Weight)
	case Edge:
		b = appendNumbers(b, t.P, t.Q, int(t.Label), t.Weight)
	case Forget:
		b = appendNumbers(b, t.P)
	case Rename:
		b = appendNumbers(b, t.To...)
	}
	for _, x := range t.Args {
		b = append(appendTerm(append(b, '('), x), ')')
	}
	return b
}

// Format returns the text form of a term.
func Format(t Term) (string, api.Errno) {
	if _, e := Check(t); e != api.OK {
		return "", e
	}
	return string(appendTerm(nil, t)), api.OK
}

// reader reads a text form from the left; after an error it accepts nothing.
type reader struct {
	s      string
	at     int
	failed bool
}

func (r *reader) accept(c byte) bool {
	if r.failed || r.at >= len(r.s) || r.s[r.at] != c {
		return false
	}
	r.at++
	return true
}

func (r *reader) expect(c byte) {
	if !r.accept(c) {
		r.failed = true
	}
}

func (r *reader) number() int {
	n, end, ok := decimal.ReadSigned(r.s, r.at, maxNumber)
	r.at = end
	r.failed = r.failed || !ok
	return n
}

// numbers reads a number of numbers, separated by commas.
func (r *reader) numbers(into ...*int) {
	for i, p := range into {
		if i > 0 {
			r.expect(',')
		}
		*p = r.number()
	}
}

func (r *reader) argument() Term {
	r.expect('(')
	var t Term
	if !r.failed {
		t = r.term()
	}
	r.expect(')')
	return t
}

func (r *reader) term() Term {
	var t Term
	label := 0
	switch {
	case r.accept('n'):
	case r.accept('v'):
		t.Op = Vertex
		r.numbers(&t.P, &t.Id, &label, &t.Weight)
	case r.accept('e'):
		t.Op = Edge
		r.numbers(&t.P, &t.Q, &label, &t.Weight)
	case r.accept('j'):
		t.Op = Join
		t.Args = []Term{r.argument(), r.argument()}
	case r.accept('f'):
		t.Op = Forget
		t.P = r.number()
		t.Args = []Term{r.argument()}
	case r.accept('m'):
		t.Op = Rename
		t.To = r.list()
		t.Args = []Term{r.argument()}
	default:
		r.failed = true
	}
	if label < 0 || label > maxLabel {
		r.failed = true
	}
	t.Label = uint8(label)
	return t
}

// list reads the numbers in front of an argument.
func (r *reader) list() []int {
	var l []int
	for !r.failed && (r.at >= len(r.s) || r.s[r.at] != '(') {
		if len(l) > 0 {
			r.expect(',')
		}
		l = append(l, r.number())
	}
	return l
}

// Parse returns the term whose text form is s.
func Parse(s string) (Term, api.Errno) {
	if len(s) > maxText {
		return Term{}, api.ErrLong
	}
	r := &reader{s: s}
	t := r.term()
	if r.failed || r.at != len(s) {
		return Term{}, api.ErrFormat
	}
	if _, e := Check(t); e != api.OK {
		return Term{}, e
	}
	return t, api.OK
}
