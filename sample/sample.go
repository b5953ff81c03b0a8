// Package sample builds small graphs and queries from a source of choices. The tests of many layers use it.
package sample

import (
	"strconv"

	"palmette/formula"
	"palmette/graph"
)

// Pick returns a number from 0 to n-1.
type Pick func(n int) int

// Graph returns a graph with n vertices and about as many edges, with labels 0 and 1 and small weights.
func Graph(pick Pick, n int) *graph.Graph {
	g := graph.New()
	for i := range n {
		g.Apply(graph.Edit{Op: graph.AddVertex, U: i, Label: uint8(pick(4)), Weight: pick(7) - 3})
	}
	for range n * n / 3 {
		g.Apply(graph.Edit{Op: graph.AddEdge, U: pick(n), V: pick(n), Label: uint8(pick(4)), Weight: pick(7) - 3})
	}
	return g
}

// Thin returns a graph with n vertices in which every vertex has at most two neighbors before it, so its treewidth is small.
func Thin(pick Pick, n int) *graph.Graph {
	g := graph.New()
	for i := range n {
		g.Apply(graph.Edit{Op: graph.AddVertex, U: i, Label: uint8(pick(4)), Weight: pick(7) - 3})
		for back := 1; back <= 2 && back <= i; back++ {
			if pick(3) > 0 {
				g.Apply(graph.Edit{Op: graph.AddEdge, U: i, V: i - back, Label: uint8(pick(4)), Weight: pick(7) - 3})
			}
		}
	}
	return g
}

// Path returns the path with the vertices 0 to n-1.
func Path(n int) *graph.Graph {
	g := graph.New()
	for i := range n {
		g.Apply(graph.Edit{Op: graph.AddVertex, U: i})
		if i > 0 {
			g.Apply(graph.Edit{Op: graph.AddEdge, U: i - 1, V: i})
		}
	}
	return g
}

// Cycle returns the cycle with the vertices 0 to n-1.
func Cycle(n int) *graph.Graph {
	g := Path(n)
	g.Apply(graph.Edit{Op: graph.AddEdge, U: 0, V: n - 1})
	return g
}

// Complete returns the complete graph with the vertices 0 to n-1.
func Complete(n int) *graph.Graph {
	g := Path(n)
	for i := range n {
		for k := range i {
			g.Apply(graph.Edit{Op: graph.AddEdge, U: k, V: i})
		}
	}
	return g
}

// Free returns n free variables of arbitrary sorts, at most one of them a set of edges.
func Free(pick Pick, n int) []formula.Var {
	var l []formula.Var
	for i := range n {
		sort := pick(4)
		if sort == formula.EdgeSet && i > 0 {
			sort = formula.VertexSet
		}
		l = append(l, formula.Var{Name: "f" + strconv.Itoa(i), Sort: sort})
	}
	return l
}

// Query returns a well-formed query whose body has about the given size.
func Query(pick Pick, free, size int) formula.Query {
	q := formula.Query{Free: Free(pick, free)}
	q.Body = Formula(pick, q.Free, size)
	return q
}

// Formula returns a formula over the variables, with right sorts. Names of quantified variables repeat.
func Formula(pick Pick, env []formula.Var, size int) formula.Node {
	if size <= 1 {
		return Atom(pick, env)
	}
	switch pick(8) {
	case 0:
		return formula.Node{Op: formula.Not, L: []formula.Node{Formula(pick, env, size-1)}}
	case 1, 2, 3, 4:
		left := 1 + pick(size-1)
		op := formula.And + pick(4)
		return formula.Node{Op: op, L: []formula.Node{Formula(pick, env, left), Formula(pick, env, size-1-left)}}
	}
	v := formula.Var{Name: string(rune('x' + pick(3))), Sort: []int{0, 0, 1, 1, 2, 3}[pick(6)]}
	inner := []formula.Var{v}
	for _, o := range env {
		if o.Name != v.Name {
			inner = append(inner, o)
		}
	}
	body := Formula(pick, inner, size-1)
	return formula.Node{Op: formula.Exists + pick(2), Names: []string{v.Name}, Sort: v.Sort, L: []formula.Node{body}}
}

// Atom returns an atom over the variables, or a constant if no other one fits.
func Atom(pick Pick, env []formula.Var) formula.Node {
	for range 12 {
		if len(env) == 0 {
			break
		}
		a, b := env[pick(len(env))], env[pick(len(env))]
		vertices := func(v formula.Var) bool { return v.Sort == formula.Vertex || v.Sort == formula.VertexSet }
		names := []string{a.Name, b.Name}
		switch op := formula.Equals + pick(8); {
		case op == formula.HasLabel:
			return formula.Node{Op: op, Names: names[:1], N: pick(2)}
		case op == formula.SizeMod && a.Sort >= formula.VertexSet:
			m := 1 + pick(3)
			return formula.Node{Op: op, Names: names[:1], M: m, N: pick(m)}
		case op == formula.Singleton && a.Sort >= formula.VertexSet,
			op == formula.Equals && a.Sort == b.Sort,
			op == formula.Member && a.Sort < formula.VertexSet && b.Sort == a.Sort+formula.VertexSet,
			op == formula.Subset && a.Sort >= formula.VertexSet && a.Sort == b.Sort,
			op == formula.Adjacent && vertices(a) && vertices(b),
			op == formula.Incident && vertices(a) && !vertices(b):
			if op == formula.Singleton {
				names = names[:1]
			}
			return formula.Node{Op: op, Names: names}
		}
	}
	return formula.Node{Op: formula.True + pick(2)}
}

// Tree returns the bags of a tree decomposition with small bags, and a graph that fits.
func Tree(pick Pick, bags int) ([]int, [][]int, *graph.Graph) {
	parents := []int{-1}
	sets := [][]int{{0}}
	next := 1
	for i := 1; i < bags; i++ {
		p := pick(i)
		if pick(2) == 0 {
			p = i - 1
		}
		var set []int
		for _, v := range sets[p] {
			if pick(3) > 0 && len(set) < 3 {
				set = append(set, v)
			}
		}
		for len(set) < 2+pick(2) {
			set = append(set, next)
			next++
		}
		parents, sets = append(parents, p), append(sets, set)
	}
	g := graph.New()
	for id := range next {
		if pick(8) > 0 {
			g.Apply(graph.Edit{Op: graph.AddVertex, U: id, Label: uint8(pick(4)), Weight: pick(7) - 3})
		}
	}
	for _, set := range sets {
		for _, u := range set {
			for _, v := range set {
				if pick(3) == 0 {
					g.Apply(graph.Edit{Op: graph.AddEdge, U: u, V: v, Label: uint8(pick(4)), Weight: pick(7) - 3})
				}
			}
		}
	}
	return parents, sets, g
}
