package certificate

import (
	"strconv"
	"strings"

	"palmette/api"
	"palmette/bignat"
	"palmette/decimal"
	"palmette/term"
)

const (
	maxCost     = 1 << 40
	noCost      = "none"
	tableWord   = "table"
	entryMiddle = " = "
)

// Value is the value of a state or an answer. A cost that does not exist has Is false.
type Value struct {
	Is    bool
	Cost  int
	Count bignat.Nat
}

func keywords() [Kinds]string {
	return [Kinds]string{Satisfiable: "satisfiable", Count: "count", MinCost: "cost"}
}

// FormatValue returns the text of a value.
func FormatValue(kind int, v Value) (string, api.Errno) {
	if !isKind(kind) {
		return "", api.ErrKind
	}
	usesIs, usesCost := kind != Count, kind == MinCost && v.Is
	if !usesIs && v.Is || !usesCost && v.Cost != 0 || kind != Count && !v.Count.IsZero() || v.Cost < -maxCost || v.Cost > maxCost {
		return "", api.ErrFormat
	}
	switch {
	case kind == Satisfiable:
		return strconv.FormatBool(v.Is), api.OK
	case kind == Count:
		return v.Count.String(), api.OK
	case !v.Is:
		return noCost, api.OK
	}
	return strconv.Itoa(v.Cost), api.OK
}

// ParseValue returns the value whose text is s.
func ParseValue(kind int, s string) (Value, api.Errno) {
	if !isKind(kind) {
		return Value{}, api.ErrKind
	}
	switch {
	case kind == Satisfiable && (s == "true" || s == "false"):
		return Value{Is: s == "true"}, api.OK
	case kind == Count:
		if n, e := bignat.Parse(s); e == api.OK {
			return Value{Count: n}, api.OK
		}
	case kind == MinCost && s == noCost:
		return Value{}, api.OK
	case kind == MinCost:
		if n, ok := decimal.ParseSigned(s, maxCost); ok {
			return Value{Is: true, Cost: n}, api.OK
		}
	}
	return Value{}, api.ErrFormat
}

func header(entries int) string { return tableWord + " " + strconv.Itoa(entries) }

func (x Entry) line() string { return x.State + entryMiddle + x.Value }

// text returns the text of a certificate that is well-formed.
func (c Certificate) text() string {
	var b strings.Builder
	add := func(line string) { b.WriteString(line + "\n") }
	add(keywords()[c.Kind] + " " + c.Answer)
	t, _ := term.Format(c.Term)
	add(t)
	for _, l := range c.Tables {
		add(header(len(l)))
		for _, x := range l {
			add(x.line())
		}
	}
	return b.String()
}

// Format returns the text of a certificate.
func (c Certificate) Format() (string, api.Errno) {
	if e := c.Check(); e != api.OK {
		return "", e
	}
	return c.text(), api.OK
}

// scanner reads a text line by line.
type scanner struct {
	rest string
	line int // the number of the line that was read last
}

// next returns the next line, unless it is missing or incomplete.
func (s *scanner) next() (string, api.Errno) {
	s.line++
	line, rest, ended := strings.Cut(s.rest, "\n")
	if !ended {
		return "", api.ErrShort
	}
	s.rest = rest
	return line, api.OK
}

// head reads the kind and the answer.
func (s *scanner) head(c *Certificate) api.Errno {
	line, e := s.next()
	if e != api.OK {
		return e
	}
	word, answer, _ := strings.Cut(line, " ")
	for kind, keyword := range keywords() {
		if word == keyword && isValue(kind, answer) {
			c.Kind, c.Answer = kind, answer
			return api.OK
		}
	}
	return api.ErrFormat
}

// term reads the term.
func (s *scanner) term(c *Certificate) api.Errno {
	line, e := s.next()
	if e != api.OK {
		return e
	}
	c.Term, e = term.Parse(line)
	return e
}

// table reads a table of values of a kind.
func (s *scanner) table(kind int) ([]Entry, api.Errno) {
	line, e := s.next()
	if e != api.OK {
		return nil, e
	}
	digits, ok := strings.CutPrefix(line, tableWord+" ")
	n, valid := decimal.Parse(digits, MaxEntries)
	if !ok || !valid {
		return nil, api.ErrFormat
	}
	var l []Entry
	for i := range n {
		line, e := s.next()
		if e != api.OK {
			return nil, e
		}
		state, value, ok := strings.Cut(line, entryMiddle)
		if !ok || !isState(state) || !isValue(kind, value) || i > 0 && state <= l[i-1].State {
			return nil, api.ErrFormat
		}
		l = append(l, Entry{state, value})
	}
	return l, api.OK
}

// certificate reads a whole text.
func (s *scanner) certificate() (Certificate, api.Errno) {
	var c Certificate
	if e := s.head(&c); e != api.OK {
		return c, e
	}
	if e := s.term(&c); e != api.OK {
		return c, e
	}
	for range term.Size(c.Term) {
		l, e := s.table(c.Kind)
		if e != api.OK {
			return c, e
		}
		c.Tables = append(c.Tables, l)
	}
	if s.rest == "" {
		return c, api.OK
	}
	if _, e := s.next(); e != api.OK {
		return c, e
	}
	return c, api.ErrFormat
}

// Parse returns the certificate whose text is s, or the number of the first erroneous line and its error.
func Parse(s string) (Certificate, int, api.Errno) {
	if len(s) > maxText {
		return Certificate{}, 0, api.ErrLong
	}
	r := &scanner{rest: s}
	c, e := r.certificate()
	if e != api.OK {
		return Certificate{}, r.line, e
	}
	if c.Len() > MaxEntries {
		return Certificate{}, 0, api.ErrLimit
	}
	return c, 0, api.OK
}
