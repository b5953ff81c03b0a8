package library

import (
	"math/rand"
	"slices"
	"testing"

	"palmette/api"
	"palmette/bitset"
	"palmette/formula"
	"palmette/graph"
	"palmette/sample"
	"palmette/scope"
	"palmette/semantics"
	"palmette/traversal"
)

// part returns the subgraph with the given edges.
func part(g *graph.Graph, m bitset.Set) *graph.Graph {
	h := g.Clone()
	for i, x := range g.Edges() {
		if !m.Has(i) {
			h.Apply(graph.Edit{Op: graph.RemoveEdge, U: x.U, V: x.V})
		}
	}
	return h
}

func connected(g *graph.Graph) bool { return len(traversal.Components(g)) <= 1 }

func touched(g *graph.Graph, m bitset.Set) bitset.Set {
	var r bitset.Set
	for i := range m.All() {
		r = r.With(g.Edges()[i].U).With(g.Edges()[i].V)
	}
	return r
}

func isCycle(g *graph.Graph, m bitset.Set) bool {
	h := part(g, m).Induced(touched(g, m))
	for v := range h.VertexSet().All() {
		if h.Neighbors(v).Len() != 2 {
			return false
		}
	}
	return !m.IsEmpty() && connected(h)
}

func closed(g *graph.Graph, x bitset.Set) bitset.Set {
	for v := range x.All() {
		x = x.Union(g.Neighbors(v))
	}
	return x
}

func independent(g *graph.Graph, x bitset.Set) bool {
	_, m := g.Induced(x).Len()
	return m == 0
}

func labelled(g *graph.Graph, label int) bitset.Set {
	var r bitset.Set
	for _, v := range g.Vertices() {
		if v.Label>>label&1 == 1 {
			r = r.With(v.Id)
		}
	}
	return r
}

func forest(g *graph.Graph) bool { return len(traversal.ShortestCycle(g)) == 0 }

func bipartite(g *graph.Graph) bool {
	_, is := traversal.Bipartition(g)
	return is
}

func matching(g *graph.Graph, m bitset.Set) bool { return touched(g, m).Len() == 2*m.Len() }

func expected(name string, g *graph.Graph, l []bitset.Set) bool {
	all := g.VertexSet()
	n, edges := g.Len()
	var x, y bitset.Set
	if len(l) > 0 {
		x = l[0]
	}
	if len(l) > 1 {
		y = l[1]
	}
	switch name {
	case "bipartite":
		return bipartite(g)
	case "clique":
		_, m := g.Induced(x).Len()
		return m == x.Len()*(x.Len()-1)/2
	case "connected":
		return connected(g)
	case "cycle":
		return isCycle(g, x)
	case "dominatingset":
		return closed(g, x) == all
	case "evendegrees":
		return !slices.ContainsFunc(all.Elements(), func(v int) bool { return g.Neighbors(v).Len()%2 == 1 })
	case "evenorder":
		return n%2 == 0
	case "feedbackvertexset":
		return forest(g.Induced(all.Minus(x)))
	case "forest":
		return forest(g)
	case "hamiltoniancycle":
		return isCycle(g, x) && touched(g, x) == all || n == 0 && isCycle(g, x)
	case "independentset":
		return independent(g, x)
	case "inducedmatching":
		_, m := g.Induced(touched(g, x)).Len()
		return matching(g, x) && m == x.Len()
	case "kernel":
		return independent(g, x) && closed(g, x) == all
	case "matching":
		return matching(g, x)
	case "perfectmatching":
		return matching(g, x) && touched(g, x) == all
	case "reachable":
		for a := range labelled(g, 0).All() {
			for b := range labelled(g, 1).All() {
				if traversal.Connected(g, a, b) {
					return true
				}
			}
		}
		return false
	case "separator":
		return !connected(g.Induced(all.Minus(x)))
	case "spanningtree":
		return connected(part(g, x)) && forest(part(g, x))
	case "steinerset":
		return labelled(g, 0).SubsetOf(x) && connected(g.Induced(x))
	case "threecoloring":
		return x.Intersect(y).IsEmpty() && independent(g, x) && independent(g, y) && independent(g, all.Minus(x).Minus(y))
	case "triangle":
		return edges >= 3 && len(traversal.ShortestCycle(g)) == 3
	case "twocoloring":
		return independent(g, x) && independent(g, all.Minus(x))
	case "vertexcover":
		return independent(g, all.Minus(x))
	}
	panic(name)
}

// P16.2: every query, on all sets of small graphs.
func TestProperties(t *testing.T) {
	r := rand.New(rand.NewSource(1))
	for round := range 25 {
		g := sample.Graph(r.Intn, round%5)
		if round == 20 {
			g = sample.Cycle(4)
		}
		for _, name := range Names() {
			q, e := Query(name)
			if e != api.OK {
				t.Fatal(name, e)
			}
			found, e := semantics.Solutions(g, q, 1<<60)
			if e != api.OK {
				t.Fatal(name, e)
			}
			count := 0
			var each func(l []bitset.Set)
			each = func(l []bitset.Set) {
				if len(l) == len(q.Free) {
					if expected(name, g, l) {
						if count >= len(found) || bitset.CompareSlices(found[count], l) != 0 {
							t.Fatal(name, l, g.Edges())
						}
						count++
					}
					return
				}
				domain := g.VertexSet()
				if q.Free[len(l)].Sort == formula.EdgeSet {
					domain = g.EdgeSet()
				}
				for s := range domain.Subsets() {
					each(append(slices.Clip(l), s))
				}
			}
			each(nil)
			if count != len(found) {
				t.Fatal(name, count, len(found), g.Edges())
			}
			closedQuery, e := Existential(name)
			if is, f := semantics.Holds(g, closedQuery, nil, 1<<60); e != api.OK || f != api.OK || is != (count > 0) {
				t.Fatal(name, e, f)
			}
		}
	}
}

// P16.1.
func TestTexts(t *testing.T) {
	if l := Names(); len(l) != 23 || !slices.IsSorted(l) || l[0] != "bipartite" || l[22] != "vertexcover" {
		t.Error(l)
	}
	for _, name := range Names() {
		s, e := Text(name)
		q, f := Query(name)
		parsed, _, h := formula.Parse(s)
		if e != api.OK || f != api.OK || h != api.OK || !formula.EqualQueries(q, parsed) || scope.Check(q) != (scope.Problem{}) {
			t.Error(name)
		}
	}
	if s, _ := Text("triangle"); s != "some vertex a : some vertex b : some vertex c : a adj b and b adj c and a adj c" {
		t.Error(s)
	}
	q, _ := Existential("threecoloring")
	if len(q.Free) != 0 || q.Body.Names[0] != "X" || q.Body.L[0].Names[0] != "Y" || q.Body.Op != formula.Exists {
		t.Error(q)
	}
	for _, name := range []string{"", "Triangle", "triangles"} {
		s, e := Text(name)
		q, f := Query(name)
		x, h := Existential(name)
		if s != "" || e != api.ErrUnknown || f != e || h != e || !formula.EqualQueries(q, formula.Query{}) || !formula.EqualQueries(x, q) {
			t.Error(name)
		}
	}
}
