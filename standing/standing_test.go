package standing

import (
	"math/rand"
	"slices"
	"strconv"
	"strings"
	"testing"

	"palmette/api"
	"palmette/count"
	"palmette/dyndecomp"
	"palmette/formula"
	"palmette/graph"
	"palmette/kernel"
	"palmette/library"
	"palmette/nicedecomp"
	"palmette/optimize"
	"palmette/sample"
	"palmette/twbounds"
)

func parse(s string) formula.Query {
	q, _, e := formula.Parse(s)
	if e != api.OK {
		panic(s)
	}
	return q
}

// scratch computes an answer without evaluators.
func scratch(t *testing.T, g *graph.Graph, q formula.Query, kind int) string {
	k, _ := kernel.FromQuery(q)
	_, order := twbounds.UpperBound(g)
	x, e := nicedecomp.FromOrder(g, order)
	n, f := count.All(k, x)
	best, is, h := optimize.Optimum(k, x, kind == Max)
	if e != api.OK || f != api.OK || h != api.OK {
		t.Fatal(e, f, h)
	}
	switch {
	case kind == Exists:
		return strconv.FormatBool(!n.IsZero())
	case kind == Count:
		return n.String()
	case !is:
		return "none"
	}
	return strconv.Itoa(best)
}

// P52.1 to P52.6 on random edits.
func TestRandomEdits(t *testing.T) {
	r := rand.New(rand.NewSource(1))
	texts := []string{"find set X: not X adj X", "some vertex x: x is 0", "find edge e: e is 1", "find set X: one X and X is 1", "find vertex v, edge e: v on e"}
	for range 15 {
		w, e := New(sample.Thin(r.Intn, r.Intn(5)))
		if e != api.OK {
			t.Fatal(e)
		}
		for i := range 6 {
			q := parse(texts[r.Intn(len(texts))])
			kind := r.Intn(NumKinds)
			a, e := w.Register("q"+strconv.Itoa(i), q, kind)
			if e != api.OK || a != scratch(t, w.Graph(), q, kind) {
				t.Fatal(a, e)
			}
		}
		w.Unregister("q2")
		for range 15 {
			var es []graph.Edit
			for range r.Intn(4) {
				es = append(es, graph.Edit{Op: r.Intn(8), U: r.Intn(7), V: r.Intn(7), Label: uint8(r.Intn(4)), Weight: r.Intn(5) - 2})
			}
			checkApply(t, w, es)
		}
		for i, name := range w.Names() {
			q, kind, is := w.Query(name)
			if a, has := w.Answer(name); !is || !has || a != scratch(t, w.Graph(), q, kind) || i == 2 && name != "q3" {
				t.Fatal(name, a)
			}
		}
	}
}

func checkApply(t *testing.T, w *Monitor, es []graph.Edit) {
	before := w.Clone()
	old := map[string]string{}
	for _, name := range w.Names() {
		old[name], _ = w.Answer(name)
	}
	g, f, want := w.Graph(), w.f, api.OK
	rebuilds := w.Rebuilds()
	for _, e := range es {
		inside := f.AllowsEdit(g, e) == api.OK
		if want = g.Apply(e); want != api.OK {
			break
		}
		if !inside {
			if f, want = dyndecomp.FrameFor(g); want != api.OK {
				break
			}
			rebuilds++
		}
	}
	events, e := w.Apply(es...)
	if e != want {
		t.Fatal(es, e, want)
	}
	if e != api.OK {
		if events != nil || !w.Equal(before) || w.Rebuilds() != before.Rebuilds() {
			t.Fatal("changed")
		}
		return
	}
	if !w.Graph().Equal(g) || w.Rebuilds() != rebuilds {
		t.Fatal(es, w.Rebuilds(), rebuilds)
	}
	var changed []Event
	for _, name := range w.Names() {
		if now, _ := w.Answer(name); now != old[name] {
			changed = append(changed, Event{name, old[name], now})
		}
	}
	if !slices.Equal(events, changed) || !before.Graph().Equal(before.Clone().Graph()) {
		t.Fatal(events, changed)
	}
}

func TestExample(t *testing.T) {
	w, _ := New(sample.Path(3))
	q, _ := library.Query("triangle")
	if a, e := w.Register("triangle", q, Exists); a != "false" || e != api.OK {
		t.Error(a, e)
	}
	if l, e := w.Apply(graph.Edit{Op: graph.AddEdge, U: 0, V: 2}); e != api.OK || !slices.Equal(l, []Event{{"triangle", "false", "true"}}) || w.Rebuilds() != 1 {
		t.Error(l, e)
	}
	if l, e := w.Apply(graph.Edit{Op: graph.SetVertexLabel, U: 0, Label: 1}); e != api.OK || len(l) != 0 || w.Rebuilds() != 1 {
		t.Error(l, e)
	}
	c := w.Clone()
	c.Apply(graph.Edit{Op: graph.RemoveEdge, U: 0, V: 2})
	c.Unregister("triangle")
	if a, _ := w.Answer("triangle"); a != "true" || c.Equal(w) || !w.Equal(w.Clone()) || len(w.Names()) != 1 {
		t.Error(a)
	}
	o, _ := New(w.Graph())
	o.Register("triangle", q, Count)
	p, _ := New(w.Graph())
	p.Register("t", q, Exists)
	if w.Equal(o) || w.Equal(p) {
		t.Error("Equal")
	}
}

func TestErrors(t *testing.T) {
	for want, g := range map[api.Errno]*graph.Graph{api.ErrArgument: nil, api.ErrWidth: sample.Complete(5)} {
		if w, e := New(g); w != nil || e != want {
			t.Error(e)
		}
	}
	w, _ := New(sample.Path(3))
	good := parse("find set X: true")
	nested := formula.Node{}
	for range 17 {
		nested = formula.Node{Op: formula.Exists, Names: []string{"x"}, L: []formula.Node{nested}}
	}
	for i, x := range []struct {
		name string
		q    formula.Query
		kind int
		want api.Errno
	}{{"", parse("x is 1"), 9, api.ErrUnknown}, {strings.Repeat("n", 65), good, 9, api.ErrUnknown}, {"a", parse("x is 1"), 4, api.ErrKind}, {"a", good, -1, api.ErrKind}, {"a", parse("x is 1"), 0, api.ErrUnbound}, {"a", formula.Query{Body: formula.Node{Op: 99}}, 0, api.ErrKind}, {"a", formula.Query{Body: nested}, 0, api.ErrLimit}, {strings.Repeat("n", 64), good, Max, api.OK}, {strings.Repeat("n", 64), parse("x is 1"), 9, api.ErrDuplicate}} {
		if a, e := w.Register(x.name, x.q, x.kind); e != x.want || e != api.OK && a != "" {
			t.Error(i, e)
		}
	}
	for i := len(w.Names()); i < MaxQueries; i++ {
		if _, e := w.Register(strconv.Itoa(i), good, Count); e != api.OK {
			t.Fatal(e)
		}
	}
	if _, e := w.Register("", good, 9); e != api.ErrLimit {
		t.Error(e)
	}
	if _, e := w.Register("5", good, 9); e != api.ErrDuplicate {
		t.Error(e)
	}
	if w.Unregister("none") != api.ErrNotFound || w.Unregister("5") != api.OK || len(w.Names()) != 63 {
		t.Error("Unregister")
	}
	if a, is := w.Answer("5"); a != "" || is {
		t.Error(a)
	}
	if q, kind, is := w.Query("5"); is || kind != 0 || !formula.EqualQueries(q, formula.Query{}) {
		t.Error(q)
	}
	q, _, _ := w.Query("6")
	q.Free[0].Name = "other"
	if again, _, _ := w.Query("6"); again.Free[0].Name != "X" {
		t.Error("shared")
	}
	// A batch may not pass through a graph without a frame.
	k4, _ := New(sample.Complete(4))
	es := []graph.Edit{{Op: graph.AddVertex, U: 9}}
	for i := range 4 {
		es = append(es, graph.Edit{Op: graph.AddEdge, U: i, V: 9})
	}
	if l, e := k4.Apply(append(es, graph.Edit{Op: graph.RemoveVertex, U: 9})...); l != nil || e != api.ErrWidth || !k4.Graph().Equal(sample.Complete(4)) {
		t.Error(e)
	}
	var none *Monitor
	_, e1 := none.Register("", good, 9)
	_, e2 := none.Apply()
	_, is := none.Answer("")
	_, _, has := none.Query("")
	if e1 != api.ErrArgument || e2 != api.ErrArgument || none.Unregister("") != api.ErrArgument || is || has || none.Names() != nil || none.Graph() != nil || none.Rebuilds() != 0 || none.Clone() != nil || !none.Equal(nil) || none.Equal(w) || w.Equal(nil) {
		t.Error("nil")
	}
}
