package kernel

import (
	"maps"

	"palmette/api"
	"palmette/formula"
	"palmette/scope"
)

func node(op int, l ...Node) Node { return Node{Op: op, L: l} }

func isElement(sort int) bool { return sort == formula.Vertex || sort == formula.Edge }

// trackSort returns the sort of the track of a variable.
func trackSort(sort int) int {
	if sort == formula.Vertex || sort == formula.VertexSet {
		return Vertices
	}
	return Edges
}

// maxSize replaces greater sizes, so that sums do not overflow.
const maxSize = 1 << 20

// translatedSize returns the number of nodes of the translation of a formula.
func translatedSize(n formula.Node) int {
	var l [2]int
	for i, x := range n.L {
		l[i] = translatedSize(x)
	}
	size := 1 + l[0] + l[1]
	switch {
	case n.Op == formula.Equals:
		size = 3
	case n.Op == formula.Implies:
		size++
	case n.Op == formula.Iff:
		size = 5 + 2*l[0] + 2*l[1]
	case n.Op == formula.Exists && isElement(n.Sort):
		size += 2
	case n.Op == formula.ForAll && isElement(n.Sort):
		size += 4
	case n.Op == formula.ForAll:
		size += 2
	}
	return min(size, maxSize)
}

// translate returns the translation of a formula; tracks are those of the names in scope, depth is their number.
func translate(n formula.Node, tracks map[string]int, depth int) Node {
	operand := func(i int) Node { return translate(n.L[i], tracks, depth) }
	var a, b int
	if len(n.Names) > 0 {
		a = tracks[n.Names[0]]
	}
	if len(n.Names) > 1 {
		b = tracks[n.Names[1]]
	}
	switch n.Op {
	case formula.False:
		return node(Or)
	case formula.Equals:
		return node(And, Node{Op: Subset, A: a, B: b}, Node{Op: Subset, A: b, B: a})
	case formula.Member, formula.Subset:
		return Node{Op: Subset, A: a, B: b}
	case formula.Adjacent:
		return Node{Op: Adjacent, A: a, B: b}
	case formula.Incident:
		return Node{Op: Incident, A: a, B: b}
	case formula.HasLabel:
		return Node{Op: HasLabel, A: a, N: n.N}
	case formula.SizeMod:
		return Node{Op: SizeMod, A: a, N: n.N, M: n.M}
	case formula.Singleton:
		return Node{Op: Singleton, A: a}
	case formula.Not:
		return node(Not, operand(0))
	case formula.And:
		return node(And, operand(0), operand(1))
	case formula.Or:
		return node(Or, operand(0), operand(1))
	case formula.Implies:
		return node(Or, node(Not, operand(0)), operand(1))
	case formula.Iff:
		return node(And, node(Or, node(Not, operand(0)), operand(1)), node(Or, node(Not, operand(1)), operand(0)))
	case formula.Exists, formula.ForAll:
		return translateQuantifier(n, tracks, depth)
	}
	return node(And)
}

func translateQuantifier(n formula.Node, tracks map[string]int, depth int) Node {
	inner := maps.Clone(tracks)
	inner[n.Names[0]] = depth
	body := translate(n.L[0], inner, depth+1)
	if n.Op == formula.ForAll {
		body = node(Not, body)
	}
	if isElement(n.Sort) {
		body = node(And, Node{Op: Singleton, A: depth}, body)
	}
	r := Node{Op: Exists, Sort: trackSort(n.Sort), L: []Node{body}}
	if n.Op == formula.ForAll {
		return node(Not, r)
	}
	return r
}

// FromQuery returns the kernel of a query.
func FromQuery(q formula.Query) (Kernel, api.Errno) {
	if e := formula.CheckQuery(q); e != api.OK {
		return Kernel{}, e
	}
	if e := scope.Check(q).Code; e != api.OK {
		return Kernel{}, e
	}
	if translatedSize(q.Body) > MaxNodes {
		return Kernel{}, api.ErrLimit
	}
	var k Kernel
	var elements []Node
	tracks := map[string]int{}
	for i, v := range q.Free {
		tracks[v.Name] = i
		k.Sorts = append(k.Sorts, trackSort(v.Sort))
		if isElement(v.Sort) {
			elements = append(elements, Node{Op: Singleton, A: i})
		}
	}
	k.Root = translate(q.Body, tracks, len(q.Free))
	if len(elements) > 0 {
		k.Root = node(And, append(elements, k.Root)...)
	}
	if e := Check(k); e != api.OK {
		return Kernel{}, e
	}
	return k, api.OK
}
