package isomorphism

import (
	"math/rand"
	"reflect"
	"slices"
	"testing"

	"palmette/api"
	"palmette/graph"
)

func random(r *rand.Rand, most int) *graph.Graph {
	g := graph.New()
	n := r.Intn(most + 1)
	for i := range n {
		g.Apply(graph.Edit{Op: graph.AddVertex, U: 3 * i, Label: uint8(r.Intn(2)), Weight: r.Intn(2) - 1})
	}
	for range r.Intn(2*n + 1) {
		g.Apply(graph.Edit{Op: graph.AddEdge, U: 3 * r.Intn(n), V: 3 * r.Intn(n), Label: uint8(r.Intn(2)), Weight: -r.Intn(2)})
	}
	return g
}

func permutations(l []int) [][]int {
	if len(l) == 0 {
		return [][]int{nil}
	}
	var all [][]int
	for i, x := range l {
		for _, rest := range permutations(slices.Delete(slices.Clone(l), i, i+1)) {
			all = append(all, append([]int{x}, rest...))
		}
	}
	return all
}

func ids0(g *graph.Graph) []int { return g.VertexSet().Elements() }

// codeOf follows the document word by word.
func codeOf(g *graph.Graph, order []int) []int {
	var code []int
	for _, id := range order {
		v, _ := g.Vertex(id)
		code = append(code, int(v.Label), v.Weight)
	}
	for i, u := range order {
		for _, v := range order[i+1:] {
			if x, _, is := g.Edge(u, v); is {
				code = append(code, 1, int(x.Label), x.Weight)
			} else {
				code = append(code, 0)
			}
		}
	}
	return code
}

// P8.1, P8.2 and P8.4 by trying all orderings.
func TestSmallGraphs(t *testing.T) {
	r := rand.New(rand.NewSource(1))
	for range 150 {
		g := random(r, 5)
		var best []int
		for _, order := range permutations(ids0(g)) {
			if best == nil || slices.Compare(codeOf(g, order), codeOf(g, best)) < 0 {
				best = order
			}
		}
		form, order, e := CanonicalForm(g)
		if e != api.OK || !slices.Equal(order, best) || !slices.Equal(codeOf(form, ids0(form)), codeOf(g, best)) {
			t.Fatal(order, best)
		}
		if n, _ := g.Len(); n > 0 && (ids0(form)[0] != 0 || ids0(form)[n-1] != n-1) {
			t.Fatal("identifiers")
		}
		if again, _, _ := CanonicalForm(form); !again.Equal(form) {
			t.Fatal("form of form")
		}
		var autos [][]int
		for _, p := range permutations(ids0(g)) {
			if slices.Equal(codeOf(g, p), codeOf(g, ids0(g))) {
				autos = append(autos, p)
			}
		}
		if got, e := Automorphisms(g); e != api.OK || !slices.EqualFunc(got, autos, slices.Equal[[]int]) {
			t.Fatal(got, autos)
		}
		h := random(r, 5)
		other, _, _ := CanonicalForm(h)
		is, e := Isomorphic(g, h)
		if e != api.OK || is != other.Equal(form) {
			t.Fatal("Isomorphic")
		}
		to := r.Perm(len(ids0(g)))
		moved, e := Relabel(g, to)
		if e != api.OK {
			t.Fatal(e)
		}
		if again, _, _ := CanonicalForm(moved); !again.Equal(form) {
			t.Fatal("relabelled")
		}
		checkMapping(t, g, moved)
	}
}

func checkMapping(t *testing.T, a, b *graph.Graph) {
	var want [][2]int
	for _, p := range permutations(ids0(b)) {
		if slices.Equal(codeOf(a, ids0(a)), codeOf(b, p)) {
			want = [][2]int{}
			for i, v := range ids0(a) {
				want = append(want, [2]int{v, p[i]})
			}
			break
		}
	}
	if got, is, e := Mapping(a, b); !is || e != api.OK || len(got) != len(want) || len(want) > 0 && !reflect.DeepEqual(got, want) {
		t.Fatal(got, want)
	}
}

func TestExample(t *testing.T) {
	g, _ := graph.Build([]graph.Vertex{{Id: 5}, {Id: 6}, {Id: 7}}, []graph.Edge{{U: 5, V: 7}, {U: 6, V: 7}})
	form, order, _ := CanonicalForm(g)
	want, _ := graph.Build([]graph.Vertex{{Id: 0}, {Id: 1}, {Id: 2}}, []graph.Edge{{U: 0, V: 2}, {U: 1, V: 2}})
	autos, _ := Automorphisms(g)
	orbits, _ := Orbits(g)
	if !form.Equal(want) || !slices.Equal(order, []int{5, 6, 7}) || !reflect.DeepEqual(autos, [][]int{{5, 6, 7}, {6, 5, 7}}) || !reflect.DeepEqual(orbits, [][]int{{5, 6}, {7}}) {
		t.Error(order, autos, orbits)
	}
	if l, is, e := Mapping(g, graph.New()); len(l) != 0 || is || e != api.OK {
		t.Error(l)
	}
	eight := graph.New()
	for i := range 8 {
		eight.Apply(graph.Edit{Op: graph.AddVertex, U: i})
	}
	if l, e := Automorphisms(eight); len(l) != 40320 || e != api.OK {
		t.Error(len(l))
	}
}

func TestErrors(t *testing.T) {
	nine, g := graph.New(), graph.New()
	for i := range 9 {
		nine.Apply(graph.Edit{Op: graph.AddVertex, U: i})
	}
	for _, x := range []struct {
		a, b *graph.Graph
		want api.Errno
	}{{nil, nine, api.ErrArgument}, {nine, nil, api.ErrRange}, {g, nil, api.ErrArgument}, {g, nine, api.ErrRange}} {
		if is, e := Isomorphic(x.a, x.b); is || e != x.want {
			t.Error(e)
		}
		if l, is, e := Mapping(x.a, x.b); l != nil || is || e != x.want {
			t.Error(e)
		}
	}
	for want, g := range map[api.Errno]*graph.Graph{api.ErrArgument: nil, api.ErrRange: nine} {
		if f, l, e := CanonicalForm(g); f != nil || l != nil || e != want {
			t.Error(e)
		}
		if l, e := Automorphisms(g); l != nil || e != want {
			t.Error(e)
		}
		if l, e := Orbits(g); l != nil || e != want {
			t.Error(e)
		}
	}
	two, _ := graph.Build([]graph.Vertex{{Id: 4}, {Id: 5, Label: 2}}, []graph.Edge{{U: 4, V: 5, Weight: 3}})
	for _, x := range []struct {
		g    *graph.Graph
		to   []int
		want api.Errno
	}{{nil, nil, api.ErrArgument}, {two, []int{1}, api.ErrFormat}, {two, []int{-1, 2000, 3}, api.ErrFormat}, {two, []int{1, 1024}, api.ErrRange}, {two, []int{-1, -1}, api.ErrRange}, {two, []int{7, 7}, api.ErrDuplicate}} {
		if h, e := Relabel(x.g, x.to); h != nil || e != x.want {
			t.Error(e)
		}
	}
	h, e := Relabel(two, []int{5, 0})
	if x, _, is := h.Edge(0, 5); e != api.OK || !is || x.Weight != 3 {
		t.Error(e)
	}
	if v, _ := h.Vertex(0); v.Label != 2 {
		t.Error("Relabel")
	}
	if h, e := Relabel(nine, []int{8, 7, 6, 5, 4, 3, 2, 1, 0}); e != api.OK || !h.Equal(nine) {
		t.Error(e)
	}
	if l, is, e := Mapping(g, g); len(l) != 0 || !is || e != api.OK {
		t.Error("empty")
	}
}
