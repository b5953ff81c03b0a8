package checker

import (
	"strconv"
	"strings"

	"palmette/api"
	"palmette/bignat"
	"palmette/decimal"
	"palmette/term"
)

const (
	maxText    = 1 << 24
	maxEntries = 1 << 16
	maxCost    = 1 << 40
	noCost     = "none"
)

// entry is a line of a table.
type entry struct{ state, value string }

// proof is a parsed certificate.
type proof struct {
	kind   int
	answer string
	term   term.Term
	tables [][]entry
}

// value is a value of any kind: whether there is an assignment, how many there are, or the least cost of one.
type value struct {
	is    bool
	cost  int
	count bignat.Nat
}

// arithmetic describes how values of a kind are combined and written.
type arithmetic struct {
	one  value
	add  func(a, b value) value
	mul  func(a, b value) value
	cost func(weight int) value // of an element that belongs to a set
	text func(v value) string
	read func(s string) bool // whether a text is that of a value
}

func arithmeticOf(kind int) arithmetic {
	one := value{is: true, count: bignat.FromUint64(1)}
	a := arithmetic{one: one, cost: func(int) value { return one }}
	switch kind {
	case Satisfiable:
		a.add = func(x, y value) value { return value{is: x.is || y.is} }
		a.mul = func(x, y value) value { return value{is: x.is && y.is} }
		a.text = func(x value) string { return strconv.FormatBool(x.is) }
		a.read = func(s string) bool { return s == "true" || s == "false" }
	case Count:
		a.add = func(x, y value) value { return value{count: x.count.Add(y.count)} }
		a.mul = func(x, y value) value { return value{count: x.count.Mul(y.count)} }
		a.text = func(x value) string { return x.count.String() }
		a.read = func(s string) bool {
			_, e := bignat.Parse(s)
			return e == api.OK
		}
	case MinCost:
		a.add = cheaper
		a.mul = func(x, y value) value { return value{is: x.is && y.is, cost: x.cost + y.cost} }
		a.cost = func(weight int) value { return value{is: true, cost: weight} }
		a.text = func(x value) string {
			if !x.is {
				return noCost
			}
			return strconv.Itoa(x.cost)
		}
		a.read = func(s string) bool {
			_, ok := decimal.ParseSigned(s, maxCost)
			return ok || s == noCost
		}
	}
	return a
}

func cheaper(x, y value) value {
	if !x.is || y.is && y.cost < x.cost {
		return y
	}
	return x
}

// lines reads a text line by line.
type lines struct{ rest string }

func (l *lines) next() (string, bool) {
	line, rest, ended := strings.Cut(l.rest, "\n")
	l.rest = rest
	return line, ended
}

// parse reads a certificate.
func parse(s string) (proof, bool) {
	if len(s) > maxText {
		return proof{}, false
	}
	l := &lines{s}
	first, ok := l.next()
	word, answer, _ := strings.Cut(first, " ")
	kind, known := map[string]int{"satisfiable": Satisfiable, "count": Count, "cost": MinCost}[word]
	if !ok || !known || !arithmeticOf(kind).read(answer) {
		return proof{}, false
	}
	second, ok := l.next()
	t, e := term.Parse(second)
	if !ok || e != api.OK {
		return proof{}, false
	}
	c := proof{kind: kind, answer: answer, term: t}
	entries := 0
	for range term.Size(t) {
		table, ok := parseTable(l, arithmeticOf(kind))
		entries += len(table)
		if !ok {
			return proof{}, false
		}
		c.tables = append(c.tables, table)
	}
	return c, l.rest == "" && entries <= maxEntries
}

func parseTable(l *lines, a arithmetic) ([]entry, bool) {
	head, ended := l.next()
	digits, is := strings.CutPrefix(head, "table ")
	n, ok := decimal.Parse(digits, maxEntries)
	if !ended || !is || !ok {
		return nil, false
	}
	var table []entry
	for i := range n {
		line, ended := l.next()
		state, text, ok := strings.Cut(line, " = ")
		if !ended || !ok || !isState(state) || !a.read(text) || i > 0 && state <= table[i-1].state {
			return nil, false
		}
		table = append(table, entry{state, text})
	}
	return table, true
}

func isState(s string) bool {
	for _, b := range []byte(s) {
		if (b < '0' || b > '9') && strings.IndexByte(" -.!:()[]{}", b) < 0 {
			return false
		}
	}
	return s != ""
}
