package semantics

import (
	"math/rand"
	"reflect"
	"testing"

	"palmette/api"
	"palmette/bitset"
	"palmette/formula"
	"palmette/graph"
	"palmette/sample"
)

const plenty = 1 << 60

func parse(s string) formula.Query {
	q, _, e := formula.Parse(s)
	if e != api.OK {
		panic(s)
	}
	return q
}

// P13.2: every atom, on values chosen one by one.
func TestAtoms(t *testing.T) {
	g, _ := graph.Build([]graph.Vertex{{Id: 1, Label: 1}, {Id: 2, Label: 3}, {Id: 5}}, []graph.Edge{{U: 1, V: 2, Label: 2}, {U: 2, V: 5}})
	for _, x := range []struct {
		s    string
		a, b bitset.Set
		want bool
	}{
		{"find set a, set b: true", bitset.Of(1), bitset.Of(), true}, {"find set a, set b: false", bitset.Of(1), bitset.Of(), false},
		{"find set a, set b: a = b", bitset.Of(1), bitset.Of(1, 2), false}, {"find set a, set b: a = b", bitset.Of(1, 2), bitset.Of(1, 2), true},
		{"find vertex a, set b: a in b", bitset.Of(1), bitset.Of(1, 2), true}, {"find vertex a, set b: a in b", bitset.Of(5), bitset.Of(1, 2), false},
		{"find edge a, edges b: a in b", bitset.Of(1), bitset.Of(0), false}, {"find edge a, edges b: a in b", bitset.Of(1), bitset.Of(0, 1), true},
		{"find set a, set b: a sub b", bitset.Of(), bitset.Of(), true}, {"find set a, set b: a sub b", bitset.Of(1, 5), bitset.Of(1, 2), false},
		{"find set a, set b: a adj b", bitset.Of(1, 2), bitset.Of(1), true}, {"find set a, set b: a adj b", bitset.Of(1), bitset.Of(1, 5), false}, {"find set a, set b: a adj b", bitset.Of(), bitset.Of(1, 5), false},
		{"find vertex a, set b: a adj b", bitset.Of(5), bitset.Of(2), true},
		{"find set a, edges b: a on b", bitset.Of(1), bitset.Of(1), false}, {"find set a, edges b: a on b", bitset.Of(1, 5), bitset.Of(1), true}, {"find vertex a, edge b: a on b", bitset.Of(2), bitset.Of(1), true},
		{"find set a, set b: a is 0", bitset.Of(1, 2), bitset.Of(), true}, {"find set a, set b: a is 1", bitset.Of(1, 2), bitset.Of(), false}, {"find set a, set b: a is 7", bitset.Of(), bitset.Of(), true},
		{"find edges a, edge b: a is 1", bitset.Of(0), bitset.Of(1), true}, {"find edges a, edge b: b is 1", bitset.Of(0), bitset.Of(1), false},
		{"find set a, set b: size a mod 3 is 2", bitset.Of(1, 5), bitset.Of(), true}, {"find set a, set b: size a mod 2 is 1", bitset.Of(1, 5), bitset.Of(), false}, {"find edges a, set b: size a mod 1 is 0", bitset.Of(1), bitset.Of(), true},
		{"find set a, edges b: one a", bitset.Of(1), bitset.Of(), true}, {"find set a, edges b: one b", bitset.Of(1), bitset.Of(0, 1), false}, {"find set a, edges b: one b", bitset.Of(1), bitset.Of(), false},
		{"find set a, set b: (some vertex a: a is 1) and one a", bitset.Of(1), bitset.Of(), true}, {"find vertex a, set b: a in b implies false", bitset.Of(1), bitset.Of(1), false},
		{"find vertex a, set b: a in b iff a is 0", bitset.Of(5), bitset.Of(1), true}, {"find vertex a, set b: not a in b or a is 1", bitset.Of(1), bitset.Of(1), false},
		{"find vertex a, edge b: every vertex c: c on b implies some edge d: a on d and c on d", bitset.Of(2), bitset.Of(1), true},
	} {
		is, e := Holds(g, parse(x.s), []bitset.Set{x.a, x.b}, plenty)
		if is != x.want || e != api.OK {
			t.Error(x.s, x.a, x.b, is, e)
		}
		if not, _ := Holds(g, formula.Query{Free: parse(x.s).Free, Body: formula.Node{Op: formula.Not, L: []formula.Node{parse(x.s).Body}}}, []bitset.Set{x.a, x.b}, plenty); not == is {
			t.Error(x.s)
		}
	}
}

func TestErrors(t *testing.T) {
	g := sample.Path(3)
	q := parse("find vertex v, set X: some vertex w: w in X")
	good := []bitset.Set{bitset.Of(1), {}}
	for _, x := range []struct {
		g      *graph.Graph
		q      formula.Query
		values []bitset.Set
		most   int
		want   api.Errno
	}{
		{nil, formula.Query{Body: formula.Node{Op: 99}}, nil, 0, api.ErrArgument}, {g, formula.Query{Body: formula.Node{Op: 99}}, nil, 0, api.ErrKind}, {g, parse("x is 1"), nil, 0, api.ErrUnbound}, {g, parse("f()"), nil, 0, api.ErrUnknown},
		{g, q, good[:1], 0, api.ErrFormat}, {g, q, []bitset.Set{{}, {}}, 0, api.ErrNotFound}, {g, q, []bitset.Set{bitset.Of(0, 1), {}}, 0, api.ErrNotFound}, {g, q, []bitset.Set{bitset.Of(3), {}}, 0, api.ErrNotFound}, {g, q, []bitset.Set{bitset.Of(1), bitset.Of(3)}, 0, api.ErrNotFound}, {g, q, good, 2, api.ErrBudget}, {g, q, good, 3, api.OK}, {g, q, good, -1, api.ErrBudget},
	} {
		if is, e := Holds(x.g, x.q, x.values, x.most); is || e != x.want {
			t.Error(x, e)
		}
		if w, e := Weight(x.g, x.q, x.values); x.want != api.ErrBudget && e != x.want || x.want == api.ErrBudget && e != api.OK || w != 0 {
			t.Error(x, e)
		}
		if l, e := Solutions(x.g, x.q, x.most); len(x.values) == 0 && (len(l) != 0 || e != x.want) {
			t.Error(x, e)
		}
		if l, e := SizeHistogram(x.g, x.q, x.most); len(x.values) == 0 && (len(l) != 0 || e != x.want) {
			t.Error(x, e)
		}
	}
	if _, e := Solutions(g, q, 3*3*8-1); e != api.ErrBudget {
		t.Error(e)
	}
	if l, e := Solutions(g, q, 3*3*8); e != api.OK || len(l) != 21 {
		t.Error(e)
	}
}

// P13.1.
func TestCost(t *testing.T) {
	g := sample.Path(3)
	for s, want := range map[string]int{"true": 1, "true and (true or not true)": 3, "some vertex x: true": 3, "some edge x: true": 2, "every set x: true iff true": 16, "every edges x: some set y: true": 32} {
		if c := Cost(g, parse(s).Body); c != want || Cost(nil, parse(s).Body) != 0 {
			t.Error(s, c)
		}
	}
	if c := Cost(graph.New(), parse("some vertex x: some edge y: true").Body); c != 1 {
		t.Error(c)
	}
	if c := Cost(sample.Path(100), parse("some set X: some set Y: true").Body); c != plenty {
		t.Error(c)
	}
	bad := formula.Node{Op: formula.Exists, Sort: 7, L: []formula.Node{{}, {}}}
	if Cost(g, bad) != 2 || Cost(g, formula.Node{Op: formula.Exists, Sort: 2}) != 1 || Cost(g, formula.Node{Op: -3, L: []formula.Node{bad, bad}}) != 4 {
		t.Error("malformed")
	}
}

// P13.3 to P13.5.
func TestSolutions(t *testing.T) {
	q := parse("find set X: not X adj X")
	h, e := SizeHistogram(sample.Path(4), q, plenty)
	if e != api.OK || !reflect.DeepEqual(h, []SizeCount{{[]int{0}, 1}, {[]int{1}, 4}, {[]int{2}, 3}}) {
		t.Error(h)
	}
	colors := parse("find set X, set Y, set Z: not X adj X and not Y adj Y and not Z adj Z and (every vertex v: v in X or v in Y or v in Z) and every vertex v: not (v in X and v in Y) and not (v in X and v in Z) and not (v in Y and v in Z)")
	if l, e := Solutions(sample.Cycle(5), colors, plenty); e != api.OK || len(l) != 30 {
		t.Error(len(l))
	}
	for s, want := range map[string]bool{"some vertex x: true": false, "some set X: true": true, "every vertex x: false": true, "some edges Y: true": true} {
		if is, e := Holds(graph.New(), parse(s), nil, plenty); is != want || e != api.OK {
			t.Error(s)
		}
	}
	r := rand.New(rand.NewSource(1))
	for range 150 {
		g := sample.Graph(r.Intn, r.Intn(4))
		q := sample.Query(r.Intn, r.Intn(3), 1+r.Intn(8))
		all, e := Solutions(g, q, plenty)
		if e != api.OK {
			t.Fatal(e)
		}
		for i := range all {
			if i > 0 && bitset.CompareSlices(all[i-1], all[i]) >= 0 {
				t.Fatal("order")
			}
			if is, e := Holds(g, q, all[i], plenty); !is || e != api.OK {
				t.Fatal("solution")
			}
		}
		h, _ := SizeHistogram(g, q, plenty)
		n := 0
		for _, c := range h {
			n += c.Count
		}
		if n != len(all) {
			t.Fatal("histogram")
		}
	}
	g, _ := graph.Build([]graph.Vertex{{Id: 1, Weight: 5}, {Id: 4, Weight: -2}}, []graph.Edge{{U: 1, V: 4, Weight: 100}})
	if w, e := Weight(g, parse("find set X, vertex v, edges Y: true"), []bitset.Set{bitset.Of(1, 4), bitset.Of(1), bitset.Of(0)}); w != 108 || e != api.OK {
		t.Error(w, e)
	}
}
