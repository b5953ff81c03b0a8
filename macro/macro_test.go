package macro

import (
	"slices"
	"strings"
	"testing"

	"palmette/api"
	"palmette/formula"
	"palmette/graph"
	"palmette/semantics"
)

func query(s string) formula.Query {
	q, _, e := formula.Parse(s)
	if e != api.OK {
		panic(s)
	}
	return q
}

func set(t *testing.T, s string) *Set {
	m, n, e := Parse(s)
	if e != api.OK || n != 0 {
		t.Fatal(s, n, e)
	}
	return m
}

// P15.2 and P15.6.
func TestExpand(t *testing.T) {
	for _, x := range []struct{ macros, q, want string }{
		{"let f(set X): some vertex v: v in X;", "find vertex v, set Y: f(Y) and v in Y", "find vertex v, set Y: (some vertex z1: z1 in Y) and v in Y"},
		{"let f(vertex a, vertex b): some vertex x: a adj x and x adj b;", "find vertex x, vertex z1: f(x, z1) and some set z3: f(z1, x)", "find vertex x, vertex z1: (some vertex z2: x adj z2 and z2 adj z1) and some set z3: some vertex z4: z1 adj z4 and z4 adj x"},
		{"let f(): some set z2: one z2; let g(): (some vertex a: f()) and f();", "g() or some vertex v: g()", "((some vertex z1: some set z3: one z3) and some set z4: one z4) or some vertex v: (some vertex z5: some set z6: one z6) and some set z7: one z7"},
		{"let f(vertex a): some vertex a: some vertex a: a is 1; let g(vertex b): f(b) and b is 0;", "find vertex q: g(q)", "find vertex q: (some vertex z1: some vertex z2: z2 is 1) and q is 0"},
		{"", "u = v", "u = v"},
	} {
		got, e := set(t, x.macros).Expand(query(x.q))
		if e != api.OK || !formula.EqualQueries(got, query(x.want)) {
			t.Error(x.q, got, e)
		}
	}
	// The meaning is that of the bodies: a vertex with a neighbor that has label 0, without capture.
	m := set(t, "let has(vertex v): some vertex u: u adj v and u is 0;")
	q, _ := m.Expand(query("find vertex u: has(u)"))
	g, _ := graph.Build([]graph.Vertex{{Id: 0, Label: 1}, {Id: 1}, {Id: 2}}, []graph.Edge{{U: 0, V: 1}})
	if l, e := semantics.Solutions(g, q, 1<<30); len(l) != 1 || e != api.OK || !l[0][0].Has(1) {
		t.Error(l, e)
	}
	if len(m.Calls(q)) != 0 {
		t.Error("calls left")
	}
}

func TestExpandErrors(t *testing.T) {
	m := set(t, "let f(vertex a, set X): a in X; let d0(): true and true;")
	for _, x := range []struct {
		q    formula.Query
		want api.Errno
	}{
		{formula.Query{Body: formula.Node{Op: 99}}, api.ErrKind}, {query("g()"), api.ErrUnknown}, {query("f(a)"), api.ErrFormat}, {query("find set X: f(a, X)"), api.ErrUnbound}, {query("find set X: f(X, b)"), api.ErrKind}, {query("find vertex a: f(a, b)"), api.ErrUnbound}, {query("find vertex a: u = v and f(a, a)"), api.ErrKind}, {query("find vertex a, set X: some set a: f(a, X)"), api.ErrKind}, {query("u = v or d0()"), api.OK},
	} {
		q, e := m.Expand(x.q)
		if e != x.want || e != api.OK && (len(q.Free) > 0 || q.Body.Op != 0) {
			t.Error(e, x.want)
		}
	}
	double := "let m0(): true;"
	nest := "let n0(): true;"
	for i := 1; i < 64; i++ {
		a, b := "m"+string(rune('0'+i%10))+string(rune('a'+i/10)), "n"+string(rune('0'+i%10))+string(rune('a'+i/10))
		before := strings.Fields(strings.NewReplacer("(", " ").Replace(double[strings.LastIndex(double, "let ")+4:]))[0]
		double += "let " + a + "(): " + before + "() and " + before + "();"
		last := strings.Fields(strings.NewReplacer("(", " ").Replace(nest[strings.LastIndex(nest, "let ")+4:]))[0]
		nest += "let " + b + "(): " + strings.Repeat("not ", 5) + last + "();"
	}
	if _, e := set(t, double).Expand(query("m3g()")); e != api.ErrLimit {
		t.Error(e)
	}
	if q, e := set(t, double).Expand(query("m1b()")); e != api.OK || formula.Size(q.Body) != 4095 {
		t.Error(e)
	}
	if _, e := set(t, nest).Expand(query("n3g()")); e != api.ErrDepth {
		t.Error(e)
	}
}

// P15.1.
func TestAdd(t *testing.T) {
	s := New()
	body := query("some set Y: X = Y").Body
	params := []formula.Var{{Name: "X", Sort: formula.VertexSet}}
	if e := s.Add(Macro{"eq", params, body}); e != api.OK {
		t.Fatal(e)
	}
	seven := []formula.Var{{Name: "1"}, {}, {}, {}, {}, {}, {}}
	for _, x := range []struct {
		m    Macro
		want api.Errno
	}{
		{Macro{"set", seven, body}, api.ErrFormat}, {Macro{"eq", seven, body}, api.ErrDuplicate}, {Macro{"a", seven, body}, api.ErrRange}, {Macro{"a", []formula.Var{{Name: "in", Sort: 9}}, body}, api.ErrFormat}, {Macro{"a", []formula.Var{{Name: "X", Sort: 4}, {}}, body}, api.ErrRange}, {Macro{"a", []formula.Var{{Name: "X"}, {Name: "X", Sort: 4}}, body}, api.ErrRange}, {Macro{"a", []formula.Var{{Name: "X"}, {Name: "X"}}, formula.Node{Op: 99}}, api.ErrDuplicate}, {Macro{"a", params, formula.Node{Op: 99}}, api.ErrKind},
		{Macro{"a", nil, query("a()").Body}, api.ErrUnknown}, {Macro{"a", nil, query("X = X and a()").Body}, api.ErrUnbound}, {Macro{"a", params, query("eq(X,X)").Body}, api.ErrFormat}, {Macro{"a", params, query("eq(Y)").Body}, api.ErrUnbound}, {Macro{"a", params, query("some edge Y: eq(Y)").Body}, api.ErrKind}, {Macro{"a", params, query("(some set Z: eq(Z)) and one Z").Body}, api.ErrUnbound}, {Macro{"a", params, query("X in X").Body}, api.OK},
	} {
		before := s.Clone()
		if e := s.Add(x.m); e != x.want || s.Equal(before) != (e != api.OK) {
			t.Error(x.m, e)
		}
	}
	m, is := s.Lookup("eq")
	if !is || m.Name != "eq" || !formula.Equal(m.Body, body) {
		t.Error(m)
	}
	m.Body.L[0].Names[0], m.Params[0].Name, params[0].Name = "q", "q", "w"
	if again, _ := s.Lookup("eq"); again.Body.L[0].Names[0] != "X" || again.Params[0].Name != "X" {
		t.Error("shared")
	}
	if m, is := s.Lookup("none"); is || m.Name != "" {
		t.Error(m)
	}
	if l := s.Names(); !slices.Equal(l, []string{"eq", "a"}) {
		t.Error(l)
	}
	for i := len(s.Names()); i < 64; i++ {
		if e := s.Add(Macro{Name: "m" + string(rune('a'+i/26)) + string(rune('a'+i%26))}); e != api.OK {
			t.Fatal(e)
		}
	}
	if e := s.Add(Macro{Name: "1"}); e != api.ErrLimit {
		t.Error(e)
	}
	if l := s.Calls(query("g() and (f(x) or g(y))")); !slices.Equal(l, []string{"f", "g"}) {
		t.Error(l)
	}
	if l := s.Calls(formula.Query{Body: formula.Node{Op: formula.Call, L: []formula.Node{{Op: formula.Call, Names: []string{""}}}}}); !slices.Equal(l, []string{""}) {
		t.Error(l)
	}
}

// P15.3 to P15.5.
func TestParseAndFormat(t *testing.T) {
	s := set(t, "let f(set X,edge e):X=X;let g():\nsome set Y:some edge e:f(Y,e);")
	text, e := s.Format()
	if e != api.OK || text != "let f ( set X , edge e ) : X = X ;\nlet g ( ) : some set Y : some edge e : f ( Y , e ) ;\n" {
		t.Error(text)
	}
	if !set(t, text).Equal(s) || !set(t, "").Equal(New()) {
		t.Error("round trip")
	}
	for s, want := range map[string]struct {
		n int
		e api.Errno
	}{
		"%": {0, api.ErrFormat}, "let f(): true; abcdefghijklmnopq": {0, api.ErrRange}, "f(): true;": {0, api.ErrFormat}, "let f(): true": {0, api.ErrFormat}, "let f(): true; let g() true;": {1, api.ErrFormat}, "let f(,): true;": {0, api.ErrFormat}, "let f(X): true;": {0, api.ErrFormat}, "let f(set X,): true;": {0, api.ErrFormat}, "let f(set X set Y): true;": {0, api.ErrFormat}, "let set(): true;": {0, api.ErrFormat}, "let": {0, api.ErrFormat},
		"let f(): true; let g(): x is 9;": {1, api.ErrRange}, "let f(): true; let f(): true;": {1, api.ErrDuplicate}, "let f(): f();": {0, api.ErrUnknown}, "let f(): ;": {0, api.ErrFormat}, "let f(): true true;": {0, api.ErrFormat}, "let f(set a,set b,set c,set d,set e,set g,set h): true;": {0, api.ErrRange}, "let f(): true; ;": {1, api.ErrFormat}, "let f(): X = X;": {0, api.ErrUnbound},
	} {
		if m, n, e := Parse(s); m != nil || n != want.n || e != want.e {
			t.Error(s, n, e)
		}
	}
	var none *Set
	if _, e := none.Format(); e != api.ErrArgument {
		t.Error(e)
	}
	if _, e := none.Expand(query("true")); e != api.ErrArgument {
		t.Error(e)
	}
	if _, is := none.Lookup("f"); is || none.Add(Macro{}) != api.ErrArgument || none.Names() != nil || none.Calls(query("f()")) != nil || none.Clone() != nil || !none.Equal(nil) || none.Equal(New()) || New().Equal(nil) {
		t.Error("nil")
	}
}
