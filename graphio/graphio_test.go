package graphio

import (
	"math/rand"
	"reflect"
	"strings"
	"testing"

	"palmette/api"
	"palmette/bitset"
	"palmette/graph"
)

func randomGraph(r *rand.Rand) *graph.Graph {
	g := graph.New()
	for range 60 {
		g.Apply(graph.Edit{Op: r.Intn(graph.EditKinds), U: r.Intn(8), V: r.Intn(8), Label: uint8(r.Intn(256)), Weight: r.Intn(2<<20+1) - 1<<20})
	}
	return g
}

// P6.1.
func TestGraph(t *testing.T) {
	r := rand.New(rand.NewSource(1))
	for range 200 {
		g := randomGraph(r)
		if h, n, e := ParseGraph(FormatGraph(g)); e != api.OK || n != 0 || !h.Equal(g) {
			t.Fatal(FormatGraph(g), n, e)
		}
	}
	g, _ := graph.Build([]graph.Vertex{{Id: 3}, {Id: 1}}, []graph.Edge{{U: 3, V: 1, Weight: -2}})
	if s := FormatGraph(g); s != "vertex 1 0 0\nvertex 3 0 0\nedge 1 3 0 -2\n" || FormatGraph(nil) != "" {
		t.Error(s)
	}
	two := "vertex 1 0 0\nvertex 2 0 0\n"
	for s, want := range map[string]struct {
		n int
		e api.Errno
	}{
		"": {}, "vertex 1 0 0": {1, api.ErrShort}, "x": {1, api.ErrShort}, "\n": {1, api.ErrFormat},
		"vertex 1 0\n": {1, api.ErrFormat}, "vertex 1 0 0 \n": {1, api.ErrFormat}, "vertex  1 0 0\n": {1, api.ErrFormat},
		"vertex 01 0 0\n": {1, api.ErrFormat}, "vertex 1 0 -0\n": {1, api.ErrFormat}, "vertex 1 0 +1\n": {1, api.ErrFormat},
		"vertex -1 0 0\n": {1, api.ErrRange}, "vertex 1024 0 0\n": {1, api.ErrRange}, "vertex 1 256 0\n": {1, api.ErrRange},
		"vertex 1 -1 0\n": {1, api.ErrRange}, "vertex 1 0 1048577\n": {1, api.ErrRange}, "vertex 2147483648 0 0\n": {1, api.ErrRange},
		"vertex 2147483649 0 0\n": {1, api.ErrFormat}, "vertex -2147483648 0 0\n": {1, api.ErrRange}, "Vertex 1 0 0\n": {1, api.ErrFormat},
		two + "vertex 2 0 0\n": {3, api.ErrFormat}, two + "vertex 0 0 0\n": {3, api.ErrFormat}, two + "edge 1 1 0 0\n": {3, api.ErrLoop},
		two + "edge 5 5 0 1048577\n": {3, api.ErrRange}, two + "edge 2 1 0 0\n": {3, api.ErrFormat}, two + "edge 1 3 0 0\n": {3, api.ErrNotFound},
		two + "edge 1 2 0 0\nedge 1 2 0 0\n": {4, api.ErrFormat}, two + "edge 1 2 0 0\nvertex 3 0 0\n": {4, api.ErrFormat},
		two + "edge 1 2 0 0\nedge 1 2 0 0": {4, api.ErrShort}, two + "edge 9 3 0 0\n": {3, api.ErrFormat},
		two + "edge 0 1 0 0\n": {3, api.ErrNotFound}, two + "edge 1 2 0\n": {3, api.ErrFormat},
		strings.Repeat("x", 1<<20+1): {0, api.ErrLong}, strings.Repeat("x", 1<<20): {1, api.ErrShort},
	} {
		if g, n, e := ParseGraph(s); n != want.n || e != want.e || (g == nil) != (e != api.OK) {
			t.Errorf("%.60q %d %d", s, n, e)
		}
	}
}

func TestEdgeLimit(t *testing.T) {
	g := graph.New()
	for i := range 50 {
		g.Apply(graph.Edit{Op: graph.AddVertex, U: i})
	}
	for i := range 50 {
		for k := i + 1; k < 50; k++ {
			g.Apply(graph.Edit{Op: graph.AddEdge, U: i, V: k})
		}
	}
	s := FormatGraph(g)
	if _, _, e := ParseGraph(s); e != api.OK {
		t.Error(e)
	}
	if _, n, e := ParseGraph(s + "edge 48 49 0 0\n"); e != api.ErrLimit || n != 1075 {
		t.Error(n, e)
	}
}

// P6.2.
func TestEdits(t *testing.T) {
	texts := []string{"add 3 255 -1048576", "drop 0", "join 9 3 1 7", "part 1023 0", "mark 5 0", "weigh 5 -1", "markedge 1 2 3", "weighedge 2 1 1048576"}
	var l []graph.Edit
	for op, s := range texts {
		e, err := ParseEdit(s)
		if err != api.OK || e.Op != op {
			t.Error(s, err)
		}
		if again, err := FormatEdit(e); again != s || err != api.OK {
			t.Error(again, err)
		}
		l = append(l, e)
	}
	if l[2] != (graph.Edit{Op: graph.AddEdge, U: 9, V: 3, Label: 1, Weight: 7}) {
		t.Error(l[2])
	}
	all := strings.Join(texts, "\n") + "\n"
	if s, e := FormatEdits(l); s != all || e != api.OK {
		t.Error(s, e)
	}
	if got, n, e := ParseEdits(all); !reflect.DeepEqual(got, l) || n != 0 || e != api.OK {
		t.Error(got, e)
	}
	for s, want := range map[string]api.Errno{"": api.ErrFormat, "add 1 2": api.ErrFormat, "add 1 2 3 4": api.ErrFormat, "add  1 2 3": api.ErrFormat, "drop 1 ": api.ErrFormat, "drop 1024": api.ErrRange, "drop -1": api.ErrRange, "mark 1 256": api.ErrRange, "join 4 4 0 0": api.ErrLoop, "join 4 4 0 9999999": api.ErrRange, "join 1024 1024 0 0": api.ErrRange, "weigh 1 2147483649": api.ErrFormat, "weigh 1 2147483648": api.ErrRange, "dropp 1": api.ErrFormat, "part 3 3": api.ErrLoop} {
		if e, err := ParseEdit(s); err != want || e != (graph.Edit{}) {
			t.Error(s, err)
		}
	}
	for _, x := range []struct {
		e    graph.Edit
		want api.Errno
	}{{graph.Edit{Op: 8, U: -1}, api.ErrKind}, {graph.Edit{Op: -1}, api.ErrKind}, {graph.Edit{Op: graph.RemoveVertex, U: -1, V: 1}, api.ErrFormat}, {graph.Edit{Op: graph.RemoveVertex, Label: 1}, api.ErrFormat}, {graph.Edit{Op: graph.RemoveVertex, Weight: 1}, api.ErrFormat}, {graph.Edit{Op: graph.RemoveEdge, U: 5000, V: 5000}, api.ErrRange}, {graph.Edit{Op: graph.SetEdgeLabel, U: 5, V: 5}, api.ErrLoop}, {graph.Edit{Op: graph.AddVertex, Weight: 1 << 21}, api.ErrRange}} {
		if s, e := FormatEdit(x.e); s != "" || e != x.want {
			t.Error(x, e)
		}
		if s, e := FormatEdits([]graph.Edit{{}, x.e, {Op: 77}}); s != "" || e != x.want {
			t.Error(x, e)
		}
	}
	for s, want := range map[string]struct {
		n int
		e api.Errno
	}{"drop 1\ndrop 2": {2, api.ErrShort}, "drop 1\ndrop x\ndrop 2": {2, api.ErrFormat}, "\n": {1, api.ErrFormat}, strings.Repeat("\n", 1<<20+1): {0, api.ErrLong}, "": {}} {
		if l, n, e := ParseEdits(s); len(l) != 0 || n != want.n || e != want.e {
			t.Errorf("%.20q %d %d", s, n, e)
		}
	}
}

// P6.3.
func TestEdgeSets(t *testing.T) {
	g, _ := graph.Build([]graph.Vertex{{Id: 1}, {Id: 2}, {Id: 30}}, []graph.Edge{{U: 1, V: 2}, {U: 30, V: 1}, {U: 2, V: 30}})
	for places := range bitset.Below(3).Subsets() {
		s, e := FormatEdgeSet(g, places)
		if got, f := ParseEdgeSet(g, s); e != api.OK || f != api.OK || got != places {
			t.Error(s, e, f)
		}
	}
	if s, _ := FormatEdgeSet(g, bitset.Of(0, 2)); s != "{1-2 2-30}" {
		t.Error(s)
	}
	if s, e := FormatEdgeSet(g, bitset.Of(3)); s != "" || e != api.ErrNotFound {
		t.Error(e)
	}
	if s, e := FormatEdgeSet(nil, bitset.Of(3)); s != "" || e != api.ErrArgument {
		t.Error(e)
	}
	if r, e := ParseEdgeSet(nil, "x"); !r.IsEmpty() || e != api.ErrArgument {
		t.Error(e)
	}
	for s, want := range map[string]api.Errno{"": api.ErrFormat, "{": api.ErrFormat, "{1-2": api.ErrFormat, "{1-2 }": api.ErrFormat, "{2-1}": api.ErrFormat, "{1-1}": api.ErrFormat, "{1-30 1-2}": api.ErrFormat, "{1-2 1-2}": api.ErrFormat, "{1-3}": api.ErrNotFound, "{1-3": api.ErrNotFound, "{1-3x": api.ErrNotFound, "{01-2}": api.ErrFormat, "{1-02}": api.ErrFormat, "{1-2147483648}": api.ErrNotFound, "{1-2147483649}": api.ErrFormat, "{1-2}x": api.ErrFormat, "{}x": api.ErrFormat, "{1-2 1-3 x": api.ErrNotFound, "{1-2  1-3}": api.ErrFormat, "{1 2}": api.ErrFormat, "{ 1-2}": api.ErrFormat, "{3-5 1-2}": api.ErrNotFound} {
		if r, e := ParseEdgeSet(g, s); !r.IsEmpty() || e != want {
			t.Error(s, e)
		}
	}
}

// P6.4.
func TestSets(t *testing.T) {
	for _, l := range [][]bitset.Set{nil, {{}}, {bitset.Of(1, 5), {}, bitset.Of(0)}} {
		got, e := ParseSets(FormatSets(l))
		if e != api.OK || bitset.CompareSlices(got, l) != 0 {
			t.Error(got, e)
		}
	}
	if s := FormatSets([]bitset.Set{bitset.Of(1, 5), {}}); s != "{1 5}; {}" || FormatSets(nil) != "-" {
		t.Error(s)
	}
	for s, want := range map[string]api.Errno{"": api.ErrFormat, "{};{}": api.ErrFormat, "{}; ": api.ErrFormat, "{}; -": api.ErrFormat, "{1024}; {": api.ErrRange, "{; {1024}": api.ErrFormat} {
		if l, e := ParseSets(s); len(l) != 0 || e != want {
			t.Error(s, e)
		}
	}
}

// P6.5 and P6.6.
func TestDiff(t *testing.T) {
	r := rand.New(rand.NewSource(2))
	for range 300 {
		a, b := randomGraph(r), randomGraph(r)
		c := a.Clone()
		for _, e := range Diff(a, b) {
			if c.Apply(e) != api.OK {
				t.Fatal(e)
			}
		}
		if !c.Equal(b) || len(Diff(a, a)) != 0 {
			t.Fatal("Diff")
		}
		d := graph.New()
		for _, e := range Diff(nil, b) {
			d.Apply(e)
		}
		if n, _ := a.Len(); !d.Equal(b) || len(Diff(a, nil)) != n {
			t.Fatal("nil")
		}
	}
	a, _, _ := ParseGraph("vertex 1 0 0\nvertex 2 0 0\nvertex 3 0 0\nvertex 4 0 0\nedge 1 2 0 0\nedge 1 4 0 0\nedge 2 3 0 0\n")
	b, _, _ := ParseGraph("vertex 0 1 2\nvertex 1 3 4\nvertex 2 0 5\nvertex 3 0 0\nedge 0 1 0 0\nedge 2 3 6 7\n")
	s, _ := FormatEdits(Diff(a, b))
	if s != "drop 4\npart 1 2\nadd 0 1 2\nmark 1 3\nweigh 1 4\nweigh 2 5\njoin 0 1 0 0\nmarkedge 2 3 6\nweighedge 2 3 7\n" {
		t.Error(s)
	}
}
