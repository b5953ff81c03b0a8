package kernel

import (
	"strconv"

	"palmette/api"
	"palmette/decimal"
)

const (
	maxText   = 1 << 20
	maxNumber = 1 << 30
)

func sortLetter(sort int) byte { return "ve"[sort] }

func appendNode(b []byte, n Node) []byte {
	f := fieldsOf(n.Op)
	b = append(append(b, '('), f.word...)
	for _, x := range []struct {
		used  bool
		value int
	}{{f.a, n.A}, {f.b, n.B}, {f.n, n.N}, {f.m, n.M}} {
		if x.used {
			b = strconv.AppendInt(append(b, ' '), int64(x.value), 10)
		}
	}
	if f.sort {
		b = append(b, ' ', sortLetter(n.Sort))
	}
	for _, x := range n.L {
		b = appendNode(append(b, ' '), x)
	}
	return append(b, ')')
}

// Format returns the text of a kernel.
func Format(k Kernel) (string, api.Errno) {
	if e := Check(k); e != api.OK {
		return "", e
	}
	var b []byte
	for _, sort := range k.Sorts {
		b = append(b, sortLetter(sort))
	}
	if len(k.Sorts) == 0 {
		b = append(b, '-')
	}
	return string(appendNode(append(b, ' '), k.Root)), api.OK
}

// reader reads a text from the left.
type reader struct {
	s  string
	at int
}

func (r *reader) accept(c byte) bool {
	if r.at >= len(r.s) || r.s[r.at] != c {
		return false
	}
	r.at++
	return true
}

func (r *reader) sort(into *int) bool {
	for sort := Vertices; sort <= Edges; sort++ {
		if r.accept(sortLetter(sort)) {
			*into = sort
			return true
		}
	}
	return false
}

func (r *reader) number(into *int) bool {
	n, end, ok := decimal.Read(r.s, r.at, maxNumber)
	*into, r.at = n, end
	return ok
}

// op reads a keyword.
func (r *reader) op() (int, bool) {
	end := r.at
	for end < len(r.s) && r.s[end] >= 'a' && r.s[end] <= 'z' {
		end++
	}
	word := r.s[r.at:end]
	r.at = end
	for op := range numOps {
		if fieldsOf(op).word == word {
			return op, true
		}
	}
	return 0, false
}

func (r *reader) node() (Node, bool) {
	if !r.accept('(') {
		return Node{}, false
	}
	op, ok := r.op()
	if !ok {
		return Node{}, false
	}
	n := Node{Op: op}
	f := fieldsOf(op)
	for _, x := range []struct {
		used bool
		into *int
	}{{f.a, &n.A}, {f.b, &n.B}, {f.n, &n.N}, {f.m, &n.M}} {
		if x.used && !(r.accept(' ') && r.number(x.into)) {
			return Node{}, false
		}
	}
	if f.sort && !(r.accept(' ') && r.sort(&n.Sort)) {
		return Node{}, false
	}
	for f.most > 0 && r.accept(' ') {
		x, ok := r.node()
		if !ok {
			return Node{}, false
		}
		n.L = append(n.L, x)
	}
	return n, r.accept(')')
}

// Parse returns the kernel whose text is s.
func Parse(s string) (Kernel, api.Errno) {
	if len(s) > maxText {
		return Kernel{}, api.ErrLong
	}
	r := &reader{s: s}
	var k Kernel
	if !r.accept('-') {
		for sort := 0; r.sort(&sort); {
			k.Sorts = append(k.Sorts, sort)
		}
		if len(k.Sorts) == 0 {
			return Kernel{}, api.ErrFormat
		}
	}
	if !r.accept(' ') {
		return Kernel{}, api.ErrFormat
	}
	root, ok := r.node()
	if !ok || r.at != len(s) {
		return Kernel{}, api.ErrFormat
	}
	k.Root = root
	if e := Check(k); e != api.OK {
		return Kernel{}, e
	}
	return k, api.OK
}
