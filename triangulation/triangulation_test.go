package triangulation

import (
	"math/rand"
	"slices"
	"testing"

	"palmette/api"
	"palmette/bitset"
	"palmette/chordal"
	"palmette/elimination"
	"palmette/graph"
	"palmette/sample"
)

func with(g *graph.Graph, l []graph.Edge) *graph.Graph {
	h := g.Clone()
	for _, x := range l {
		h.Apply(graph.Edit{Op: graph.AddEdge, U: x.U, V: x.V})
	}
	return h
}

func isChordal(g *graph.Graph) bool {
	_, is := chordal.PerfectOrder(g)
	return is
}

// reaches searches all simple paths, as the document defines it.
func reaches(g *graph.Graph, at, y int, free bitset.Set, weight map[int]int) bool {
	if g.Neighbors(at).Has(y) {
		return true
	}
	for w := range g.Neighbors(at).Intersect(free).All() {
		if weight[w] < weight[y] && reaches(g, w, y, free.Without(w), weight) {
			return true
		}
	}
	return false
}

func slowOrder(g *graph.Graph) elimination.Order {
	weight := map[int]int{}
	var o elimination.Order
	for rest := g.VertexSet(); !rest.IsEmpty(); {
		best := -1
		for v := range rest.All() {
			if best < 0 || weight[v] > weight[best] {
				best = v
			}
		}
		rest = rest.Without(best)
		var up []int
		for y := range rest.All() {
			if reaches(g, best, y, rest.Without(y), weight) {
				up = append(up, y)
			}
		}
		for _, y := range up {
			weight[y]++
		}
		o = append(o, best)
	}
	return o.Reversed()
}

// P25.1, P25.2 and P25.4.
func TestTriangulations(t *testing.T) {
	r := rand.New(rand.NewSource(1))
	for range 200 {
		g := sample.Graph(r.Intn, r.Intn(8))
		o, fill := MCSM(g), FillIn(g)
		fromOrder, _ := elimination.Fill(g, o)
		if !slices.Equal(o, slowOrder(g)) || !slices.Equal(fill, fromOrder) || isChordal(g) && len(fill) > 0 {
			t.Fatal(o, slowOrder(g), fill, fromOrder)
		}
		if is, e := IsMinimal(g, with(g, fill)); !is || e != api.OK {
			t.Fatal(fill)
		}
		thick, _ := elimination.FilledGraph(g, r.Perm(len(o)))
		var extra []graph.Edge
		for _, x := range thick.Edges() {
			if !g.Neighbors(x.U).Has(x.V) {
				extra = append(extra, x)
			}
		}
		minimal := true
		for _, x := range extra {
			h := thick.Clone()
			h.Apply(graph.Edit{Op: graph.RemoveEdge, U: x.U, V: x.V})
			minimal = minimal && !isChordal(h)
		}
		if is, e := IsMinimal(g, thick); is != minimal || e != api.OK {
			t.Fatal(is, minimal)
		}
		thin, e := Minimalize(g, thick)
		if e != api.OK || !thin.Equal(slowThin(g, thick)) {
			t.Fatal(e)
		}
		if is, _ := IsMinimal(g, thin); !is {
			t.Fatal("Minimalize")
		}
	}
}

func slowThin(g, filled *graph.Graph) *graph.Graph {
	h := filled.Clone()
again:
	for _, x := range h.Edges() {
		k := h.Clone()
		k.Apply(graph.Edit{Op: graph.RemoveEdge, U: x.U, V: x.V})
		if !g.Neighbors(x.U).Has(x.V) && isChordal(k) {
			h = k
			goto again
		}
	}
	return h
}

// P25.3.
func TestSeparators(t *testing.T) {
	r := rand.New(rand.NewSource(2))
	for range 200 {
		g := sample.Graph(r.Intn, r.Intn(8))
		var want []bitset.Set
		for s := range g.VertexSet().Subsets() {
			full := 0
			rest := g.VertexSet().Minus(s)
			var l []bitset.Set
			for !rest.IsEmpty() {
				v, _ := rest.Min()
				part := bitset.Of(v)
				for u := range 8 {
					for w := range part.All() {
						part = part.Union(g.Neighbors(w).Minus(s))
					}
					_ = u
				}
				rest = rest.Minus(part)
				l = append(l, part)
				isFull := true
				for x := range s.All() {
					isFull = isFull && !g.Neighbors(x).Intersect(part).IsEmpty()
				}
				if isFull {
					full++
				}
			}
			if !slices.Equal(Components(g, s), l) || len(FullComponents(g, s.With(999))) != full || IsMinimalSeparator(g, s) != (full >= 2) || IsMinimalSeparator(g, s.With(999)) {
				t.Fatal(s)
			}
			if full >= 2 {
				want = append(want, s)
			}
			other := bitset.Of(r.Perm(9)[:3]...)
			met := 0
			for _, part := range l {
				if !part.Intersect(other).IsEmpty() {
					met++
				}
			}
			if Crosses(g, s, other) != (met > 1) {
				t.Fatal(s, other)
			}
		}
		if l, e := MinimalSeparators(g, len(want)); e != api.OK || !slices.Equal(l, want) {
			t.Fatal(l, want)
		}
		if l, e := MinimalSeparators(g, len(want)-1); e != api.ErrLimit || l != nil {
			t.Fatal(l, e)
		}
	}
}

func TestExampleAndErrors(t *testing.T) {
	c := sample.Cycle(4)
	l, _ := MinimalSeparators(c, 9)
	if !slices.Equal(MCSM(c), []int{2, 3, 1, 0}) || !slices.Equal(FillIn(c), []graph.Edge{{U: 1, V: 3}}) || !slices.Equal(l, []bitset.Set{bitset.Of(0, 2), bitset.Of(1, 3)}) || !Crosses(c, l[0], l[1]) || !Crosses(c, l[1], l[0]) {
		t.Error(MCSM(c), FillIn(c), l)
	}
	for _, x := range []struct {
		g, f *graph.Graph
		want api.Errno
	}{{nil, c, api.ErrArgument}, {c, nil, api.ErrArgument}, {c, sample.Path(4), api.ErrFormat}, {c, sample.Path(5), api.ErrFormat}} {
		is, e := IsMinimal(x.g, x.f)
		h, f := Minimalize(x.g, x.f)
		if is || e != x.want || h != nil || f != x.want {
			t.Error(e, f)
		}
	}
	if is, e := IsMinimal(c, c); is || e != api.OK {
		t.Error(e)
	}
	if h, e := Minimalize(c, c); h != nil || e != api.ErrState {
		t.Error(e)
	}
	if l, e := MinimalSeparators(nil, 5); l != nil || e != api.ErrArgument {
		t.Error(e)
	}
	if len(MCSM(nil))+len(FillIn(nil))+len(Components(nil, bitset.Set{}))+len(FullComponents(nil, bitset.Set{})) != 0 || IsMinimalSeparator(nil, bitset.Set{}) || Crosses(nil, bitset.Set{}, bitset.Of(0, 1)) {
		t.Error("nil")
	}
	if f := FillIn(sample.Cycle(500)); len(f) != 497 {
		t.Error(len(f))
	}
}
