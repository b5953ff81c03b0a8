package fixpoint

import (
	"math/rand"
	"slices"
	"strings"
	"testing"

	"palmette/api"
	"palmette/bitset"
	"palmette/formula"
	"palmette/graph"
	"palmette/lexer"
	"palmette/sample"
	"palmette/semantics"
)

func program(t *testing.T, s string) Program {
	p, pos, e := Parse(s)
	if e != api.OK || pos != (lexer.Position{}) {
		t.Fatal(s, pos, e)
	}
	return p
}

const reach = "least R(v): v is 0 or some vertex u: u in R and u adj v; ask every vertex v: v in R"

// P17.4 and P17.6.
func TestIterate(t *testing.T) {
	g := sample.Path(3)
	g.Apply(graph.Edit{Op: graph.SetVertexLabel, U: 0, Label: 1})
	p := program(t, reach)
	sets, rounds, e := p.Iterate(g, 1<<60)
	if e != api.OK || len(sets) != 1 || sets[0] != bitset.Of(0, 1, 2) || !slices.Equal(rounds, []int{3}) {
		t.Error(sets, rounds, e)
	}
	cost := semantics.Cost(g, p.Rules[0].Body) * 12
	if _, _, e := p.Iterate(g, cost); e != api.OK {
		t.Error(e)
	}
	if s, n, e := p.Iterate(g, cost-1); s != nil || n != nil || e != api.ErrBudget {
		t.Error(e)
	}
	if s, _, e := (Program{Rules: make([]Rule, 9)}).Iterate(nil, 0); s != nil || e != api.ErrArgument {
		t.Error(e)
	}
	if s, _, e := (Program{Rules: make([]Rule, 9)}).Iterate(g, 0); s != nil || e != api.ErrLimit {
		t.Error(e)
	}
	r := rand.New(rand.NewSource(1))
	for _, s := range []string{
		reach,
		"greatest S(v): some vertex u: u in S and u adj v and u is 1; ask find vertex x: x in S",
		"least R(v): v is 1 or some vertex u: u in R and u adj v; greatest S(v): not v in R and every vertex u: u adj v implies u in S; ask find set X: S sub X and X sub R",
		"least A(v): v is 0; least A2(x): (some vertex y: y adj x and y in A) or x in A2; ask find vertex q: q in A and not q in A2",
	} {
		p := program(t, s)
		q, e := p.Translate()
		if e != api.OK {
			t.Fatal(s, e)
		}
		for range 12 {
			g := sample.Graph(r.Intn, r.Intn(4))
			sets, rounds, e := p.Iterate(g, 1<<60)
			if e != api.OK || len(rounds) != len(sets) {
				t.Fatal(e)
			}
			n, _ := g.Len()
			for _, k := range rounds {
				if k > n {
					t.Fatal(rounds)
				}
			}
			direct := formula.Query{Free: append(p.sets(len(p.Rules)), p.Query.Free...), Body: p.Query.Body}
			values, _ := semantics.Solutions(g, q, 1<<60)
			all, _ := semantics.Solutions(g, direct, 1<<60)
			var want [][]bitset.Set
			for _, l := range all {
				if slices.Equal(l[:len(sets)], sets) {
					want = append(want, l[len(sets):])
				}
			}
			if !slices.EqualFunc(values, want, slices.Equal[[]bitset.Set]) {
				t.Fatal(s, values, want, sets)
			}
		}
	}
}

// P17.1.
func TestParse(t *testing.T) {
	p := program(t, "least R(v):v in R;\ngreatest S(w):\nw in R; ask find set X: X = X")
	if len(p.Rules) != 2 || p.Rules[0].Greatest || !p.Rules[1].Greatest || p.Rules[1].Set != "S" || p.Rules[1].Var != "w" || len(p.Query.Free) != 1 {
		t.Error(p)
	}
	if q := program(t, "ask true"); len(q.Rules) != 0 || !Equal(q, Program{}) || Equal(p, q) || !Equal(p, p) {
		t.Error(q)
	}
	for s, want := range map[string]struct {
		line, col int
		e         api.Errno
	}{
		"": {1, 1, api.ErrFormat}, "least": {1, 6, api.ErrFormat}, "least (": {1, 7, api.ErrFormat}, "least R v": {1, 9, api.ErrFormat}, "least R(v:": {1, 10, api.ErrFormat}, "least R(v) v": {1, 12, api.ErrFormat}, "most R(v): true;": {1, 1, api.ErrFormat},
		"least R(v): true": {1, 17, api.ErrFormat}, "least R(v): ; ask true": {1, 13, api.ErrFormat}, "least R(v): v is 9; ask true": {1, 18, api.ErrRange}, "least R(v):\n v in\n x y; ask true": {3, 4, api.ErrFormat}, "least R(v): true and ask true": {1, 22, api.ErrFormat},
		"ask": {1, 4, api.ErrFormat}, "ask true; ": {1, 9, api.ErrFormat}, "ask find set X, set X: true": {1, 21, api.ErrDuplicate}, "ask\nfind set X:\n X": {3, 3, api.ErrFormat}, "ask 01": {1, 5, api.ErrFormat}, "least R(v): true; true": {1, 19, api.ErrFormat}, strings.Repeat(" ", 65537): {0, 0, api.ErrRange},
		"ask " + strings.Repeat("true and ", 300) + "true": {0, 0, api.ErrDepth}, "least R(v): " + strings.Repeat("true and ", 300) + "true; ask": {0, 0, api.ErrDepth},
	} {
		p, pos, e := Parse(s)
		if e != want.e || pos != (lexer.Position{Line: want.line, Col: want.col}) || !Equal(p, Program{}) {
			t.Errorf("%.50q %v %d", s, pos, e)
		}
	}
}

// P17.2.
func TestIsPositive(t *testing.T) {
	for s, want := range map[string]bool{
		"v in R": true, "R in v": true, "not v in R": false, "R sub X": false, "X sub R": true, "R adj v": true, "v adj R": true, "R on e": true, "e on R": true, "R is 0": false, "not R is 0": true, "R = X": false, "not X = R": false, "one R": false, "size R mod 2 is 0": false,
		"v in R implies true": false, "true implies v in R": true, "not (v in R implies true)": true, "v in R iff true": false, "f(R) iff true": true, "some set R: not v in R": true, "some vertex v: not v in R": false, "not not v in R": true, "R sub X implies true": true, "not R adj R": false, "not f(R)": true, "not true": true,
	} {
		n, _, e := formula.ParseFormula(s)
		if e != api.OK || IsPositive(n, "R") != want {
			t.Error(s)
		}
	}
}

// P17.3 and P17.5.
func TestCheck(t *testing.T) {
	for s, want := range map[string]api.Errno{
		reach: api.OK, "least R(v): v in R; least R(v): true; ask true": api.ErrDuplicate, "least R(R): true; ask true": api.ErrDuplicate, "least R(v): true; least S(R): true; ask true": api.ErrDuplicate, "least R(v): u in R; ask true": api.ErrUnbound, "least R(v): v in v; ask true": api.ErrKind, "least R(v): f(v); ask true": api.ErrUnknown, "least R(v): not v in R; ask true": api.ErrPolarity, "least R(v): v in S; least S(v): true; ask true": api.ErrUnbound,
		"least R(v): true; ask find vertex R: true": api.ErrDuplicate, "least R(v): true; ask v in R": api.ErrUnbound, "least R(v): v in R; greatest S(v): not v in R; ask S sub R": api.OK, "least R(v): true; ask find set a,set b,set c,set d,set e,set f,set g,set h: true": api.ErrLimit, "least v(R): true; least S(v): not v in v; ask true": api.ErrDuplicate,
	} {
		p := program(t, s)
		if e := p.Check(); e != want {
			t.Error(s, e)
		}
		if q, e := p.Translate(); e != want || e != api.OK && !formula.EqualQueries(q, formula.Query{}) {
			t.Error(s, e)
		}
	}
	for _, x := range []struct {
		p    Program
		want api.Errno
	}{{Program{Rules: make([]Rule, 7)}, api.ErrLimit}, {Program{Rules: []Rule{{Set: "in", Var: "v", Body: formula.Node{Op: 99}}}}, api.ErrFormat}, {Program{Rules: []Rule{{Set: "R", Var: "", Body: formula.Node{Op: 99}}}}, api.ErrFormat}, {Program{Rules: []Rule{{Set: "R", Var: "R", Body: formula.Node{Op: 99}}}}, api.ErrKind}, {Program{Query: formula.Query{Body: formula.Node{Op: 99}}}, api.ErrKind}} {
		if e := x.p.Check(); e != x.want {
			t.Error(e)
		}
	}
	q, e := program(t, "greatest R(v): v in R; ask true").Translate()
	want, _, _ := formula.Parse("some set R: ((every vertex v: (v in R implies v in R)) and every set R2: ((every vertex v: (v in R2 implies v in R2)) implies R2 sub R)) and true")
	if e != api.OK || !formula.EqualQueries(q, want) {
		t.Error(q)
	}
	a := program(t, reach)
	b := program(t, reach)
	b.Rules[0].Greatest = true
	if Equal(a, b) {
		t.Error("Equal")
	}
}
