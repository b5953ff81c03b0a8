package compile

import (
	"slices"

	"palmette/api"
	"palmette/rankedtree"
	"palmette/term"
)

// Limits of letters.
const (
	MaxPorts  = 4
	MaxLabels = 2
)

const maxVertices = 1024

// Letter is an operation of terms without identifiers and weights.
type Letter struct {
	Op, P, Q int
	Label    uint8
}

func inRange(ports, labels int) bool {
	return ports >= 1 && ports <= MaxPorts && labels >= 0 && labels <= MaxLabels
}

// Letters returns the letters for the given numbers of ports and labels, in symbol order.
func Letters(ports, labels int) ([]Letter, api.Errno) {
	if !inRange(ports, labels) {
		return nil, api.ErrRange
	}
	masks := uint8(1) << labels
	l := []Letter{{Op: term.Empty}}
	for p := range ports {
		for mask := range masks {
			l = append(l, Letter{Op: term.Vertex, P: p, Label: mask})
		}
	}
	for p := range ports {
		for q := p + 1; q < ports; q++ {
			for mask := range masks {
				l = append(l, Letter{term.Edge, p, q, mask})
			}
		}
	}
	l = append(l, Letter{Op: term.Join})
	for p := range ports {
		l = append(l, Letter{Op: term.Forget, P: p})
	}
	return l, api.OK
}

// arity returns the number of operands of an operation.
func arity(op int) int {
	switch op {
	case term.Join:
		return 2
	case term.Forget:
		return 1
	}
	return 0
}

// Alphabet returns the ranked alphabet of the letters.
func Alphabet(ports, labels int) (rankedtree.Alphabet, api.Errno) {
	letters, e := Letters(ports, labels)
	if e != api.OK {
		return nil, e
	}
	var a rankedtree.Alphabet
	for _, x := range letters {
		a = append(a, arity(x.Op))
	}
	return a, api.OK
}

// letterOf returns the letter of a node, which may not exist.
func letterOf(t term.Term) Letter {
	switch t.Op {
	case term.Vertex:
		return Letter{Op: t.Op, P: t.P, Label: t.Label}
	case term.Edge:
		return Letter{t.Op, min(t.P, t.Q), max(t.P, t.Q), t.Label}
	case term.Forget:
		return Letter{Op: t.Op, P: t.P}
	}
	return Letter{Op: t.Op}
}

// Encode returns the tree of letters of a term.
func Encode(ports, labels int, t term.Term) (rankedtree.Tree, api.Errno) {
	letters, e := Letters(ports, labels)
	if e != api.OK {
		return rankedtree.Tree{}, e
	}
	var encode func(t term.Term) (rankedtree.Tree, api.Errno)
	encode = func(t term.Term) (rankedtree.Tree, api.Errno) {
		letter := letterOf(t)
		symbol := slices.IndexFunc(letters, func(x Letter) bool { return x == letter })
		if symbol < 0 {
			return rankedtree.Tree{}, api.ErrUnknown
		}
		if len(t.Args) != arity(t.Op) {
			return rankedtree.Tree{}, api.ErrFormat
		}
		r := rankedtree.Tree{Symbol: symbol}
		for _, x := range t.Args {
			c, e := encode(x)
			if e != api.OK {
				return rankedtree.Tree{}, e
			}
			r.Children = append(r.Children, c)
		}
		return r, api.OK
	}
	r, e := encode(t)
	if e != api.OK {
		return rankedtree.Tree{}, e
	}
	alphabet, _ := Alphabet(ports, labels)
	if e := rankedtree.Valid(alphabet, r); e != api.OK {
		return rankedtree.Tree{}, e
	}
	return r, api.OK
}

// Decode returns the term of a tree of letters, with consecutive vertex identifiers.
func Decode(ports, labels int, t rankedtree.Tree) (term.Term, api.Errno) {
	alphabet, e := Alphabet(ports, labels)
	if e != api.OK {
		return term.Term{}, e
	}
	if e := rankedtree.Valid(alphabet, t); e != api.OK {
		return term.Term{}, e
	}
	letters, _ := Letters(ports, labels)
	vertices := 0
	var decode func(t rankedtree.Tree) term.Term
	decode = func(t rankedtree.Tree) term.Term {
		x := letters[t.Symbol]
		r := term.Term{Op: x.Op, P: x.P, Q: x.Q, Label: x.Label}
		if x.Op == term.Vertex {
			r.Id = vertices
			vertices++
		}
		for _, c := range t.Children {
			r.Args = append(r.Args, decode(c))
		}
		return r
	}
	r := decode(t)
	if vertices > maxVertices {
		return term.Term{}, api.ErrRange
	}
	return r, api.OK
}
