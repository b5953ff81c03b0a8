package normalform

import (
	"math/rand"
	"slices"
	"testing"

	"palmette/api"
	"palmette/bitset"
	"palmette/formula"
	"palmette/sample"
	"palmette/scope"
	"palmette/semantics"
)

func parse(s string) formula.Node {
	n, _, e := formula.ParseFormula(s)
	if e != api.OK {
		panic(s)
	}
	return n
}

func TestForms(t *testing.T) {
	for _, x := range []struct {
		by      func(formula.Node) (formula.Node, api.Errno)
		s, want string
	}{
		{NNF, "not (some vertex x: x is 1 implies false)", "every vertex x: (x is 1) and true"},
		{NNF, "a = b iff one c", "(not a = b or one c) and (not one c or a = b)"},
		{NNF, "not (a = b iff one c)", "(a = b and not one c) or (one c and not a = b)"},
		{NNF, "not not true and not (false or f(x))", "true and (true and not f(x))"},
		{Prenex, "(one X) or (some vertex x: x in X)", "some set x: (one X) or ((one x) and (x sub X))"},
		{Prenex, "(every edge e: e in Y) and not some set Z: one Z", "every edges e: every set Z: (not one e or e sub Y) and not one Z"},
		{Prenex, "(some set X: one X) and one X", "some set X2: one X2 and one X"},
		{ElementsToSets, "every vertex x: x = y and some edge e: e in F and e = e", "every set x: one x implies (one x and y in x) and some edges e: one e and (e sub F and e = e)"},
		{ElementsToSets, "some vertex x: some set x: y in x and x = y", "some set x: one x and some set x: y in x and x = y"},
		{Simplify, "a = a and b sub b", "true"}, {Simplify, "size a mod 1 is 0 or one a", "true"}, {Simplify, "not not one a", "one a"}, {Simplify, "one a and not one a", "false"}, {Simplify, "not one a or one a", "true"},
		{Simplify, "one a and one a", "one a"}, {Simplify, "one a implies false", "not one a"}, {Simplify, "not one a implies false", "one a"}, {Simplify, "one a implies one a", "true"}, {Simplify, "true implies one a", "one a"}, {Simplify, "false implies one a", "true"},
		{Simplify, "one a iff false", "not one a"}, {Simplify, "false iff not one a", "one a"}, {Simplify, "true iff one a", "one a"}, {Simplify, "one a iff one a", "true"},
		{Simplify, "some set X: one a", "one a"}, {Simplify, "some vertex x: one a", "some vertex x: one a"}, {Simplify, "some vertex x: false", "false"}, {Simplify, "every edge x: true", "true"}, {Simplify, "some vertex x: true", "some vertex x: true"}, {Simplify, "every edge x: false", "every edge x: false"}, {Simplify, "every edges X: X = X", "true"},
	} {
		n, e := x.by(parse(x.s))
		if e != api.OK || !formula.Equal(n, parse(x.want)) {
			t.Error(x.s, n, e)
		}
	}
}

// P14.4: all transformations preserve the solutions.
func TestSemantics(t *testing.T) {
	r := rand.New(rand.NewSource(1))
	for range 300 {
		q := sample.Query(r.Intn, r.Intn(3), 1+r.Intn(10))
		g := sample.Graph(r.Intn, r.Intn(4))
		want, _ := semantics.Solutions(g, q, 1<<60)
		for i, by := range []func(formula.Node) (formula.Node, api.Errno){NNF, Simplify, ElementsToSets, Prenex} {
			n, e := by(q.Body)
			if e != api.OK {
				t.Fatal(i, e)
			}
			if semantics.Cost(g, n) < 1<<22 {
				got, e := semantics.Solutions(g, formula.Query{Free: q.Free, Body: n}, 1<<60)
				if e != api.OK || !slices.EqualFunc(got, want, slices.Equal[[]bitset.Set]) {
					t.Fatal(i, q, n, e)
				}
			}
		}
		nnf, _ := NNF(q.Body)
		again, _ := NNF(nnf)
		simple, _ := Simplify(q.Body)
		simpler, _ := Simplify(simple)
		prenex, _ := Prenex(q.Body)
		prefix, matrix := SplitPrefix(prenex)
		if !IsNNF(nnf) || !formula.Equal(nnf, again) || !formula.Equal(simple, simpler) || formula.Size(simple) > formula.Size(q.Body) || scope.Quantifiers(matrix) != 0 || !formula.Equal(Quantify(prefix, matrix), prenex) {
			t.Fatal(q)
		}
		for _, x := range prefix {
			if x.Sort < formula.VertexSet {
				t.Fatal(x)
			}
		}
	}
}

func TestLimits(t *testing.T) {
	bad := formula.Node{Op: formula.Not}
	for _, by := range []func(formula.Node) (formula.Node, api.Errno){NNF, Simplify, ElementsToSets, Prenex} {
		if n, e := by(bad); e != api.ErrFormat || n.Op != 0 {
			t.Error(e)
		}
	}
	n := formula.Node{}
	for range 200 {
		n = formula.Node{Op: formula.Iff, L: []formula.Node{n, {}}}
	}
	if r, e := NNF(n); e != api.ErrLimit || r.Op != 0 {
		t.Error(e)
	}
	if _, e := Prenex(n); e != api.ErrLimit {
		t.Error(e)
	}
	if k, e := Alternations(n); k != 0 || e != api.ErrLimit {
		t.Error(e)
	}
	deep := formula.Node{}
	for range 200 {
		deep = formula.Node{Op: formula.Exists, Names: []string{"x"}, L: []formula.Node{deep}}
	}
	if _, e := ElementsToSets(deep); e != api.ErrDepth {
		t.Error(e)
	}
	chain := formula.Node{Op: formula.Iff, L: []formula.Node{{}, {}}}
	for range 254 {
		chain = formula.Node{Op: formula.Not, L: []formula.Node{chain}}
	}
	if _, e := NNF(chain); e != api.OK {
		t.Error(e)
	}
	or := formula.Node{Op: formula.Or, L: []formula.Node{parse("one x iff one y"), {}}}
	for range 252 {
		or = formula.Node{Op: formula.Or, L: []formula.Node{or, {}}}
	}
	if _, e := NNF(or); e != api.ErrDepth || formula.Check(or) != api.OK {
		t.Error(e)
	}
}

// P14.2 and P14.3.
func TestPieces(t *testing.T) {
	for s, want := range map[string]int{"true": 0, "some vertex x: true": 0, "some vertex x: every set y: some edge z: true": 2, "(some vertex x: true) and every set y: true": 0, "not some vertex x: every set y: true": 1, "some set x: some set y: (every edge z: true) or some edge z: true": 1} {
		if k, e := Alternations(parse(s)); k != want || e != api.OK {
			t.Error(s, k)
		}
	}
	f := Flatten(formula.And, parse("(true and false) and (one a and (one b or one c))"))
	if len(f) != 4 || f[2].Op != formula.Singleton || f[3].Op != formula.Or {
		t.Error(f)
	}
	if l := Flatten(formula.And, formula.Node{Op: formula.And, L: make([]formula.Node, 3)}); len(l) != 1 {
		t.Error(l)
	}
	for _, x := range []struct {
		n    formula.Node
		want bool
	}{{parse("not true"), true}, {parse("not not true"), false}, {parse("true implies true"), false}, {parse("some set x: true iff true"), false}, {formula.Node{Op: formula.Not}, false}, {formula.Node{Op: formula.Not, L: make([]formula.Node, 2)}, false}, {formula.Node{Op: -4, L: []formula.Node{{Op: formula.Iff}}}, false}, {formula.Node{Op: formula.Not, L: []formula.Node{{Op: -4}}}, true}, {formula.Node{Op: formula.True, L: []formula.Node{{Op: formula.Not}}}, false}, {formula.Node{Op: 77}, true}} {
		if IsNNF(x.n) != x.want {
			t.Error(x)
		}
	}
	odd := formula.Node{Op: formula.Exists, Names: []string{"a", "b"}, L: []formula.Node{{}}}
	l, rest := SplitPrefix(Quantify([]Quantifier{{formula.ForAll, "q", 9}}, odd))
	if len(l) != 1 || l[0] != (Quantifier{formula.ForAll, "q", 9}) || !formula.Equal(rest, odd) {
		t.Error(l, rest)
	}
}
