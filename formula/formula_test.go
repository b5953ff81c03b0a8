package formula_test

import (
	"math/rand"
	"strings"
	"testing"

	"palmette/api"
	"palmette/formula"
	"palmette/lexer"
	"palmette/sample"
)

func n(op int, names ...string) formula.Node { return formula.Node{Op: op, Names: names} }

func op(o int, l ...formula.Node) formula.Node { return formula.Node{Op: o, L: l} }

// P10.1: texts, precedence and associativity.
func TestParse(t *testing.T) {
	a, b, c := n(formula.Singleton, "a"), n(formula.Singleton, "b"), n(formula.Singleton, "c")
	some := func(x formula.Node) formula.Node {
		return formula.Node{Op: formula.Exists, Names: []string{"x"}, Sort: formula.VertexSet, L: []formula.Node{x}}
	}
	for s, want := range map[string]formula.Node{
		"true": n(formula.True), "false": n(formula.False), "a = b": n(formula.Equals, "a", "b"), "a in b": n(formula.Member, "a", "b"),
		"a sub b": n(formula.Subset, "a", "b"), "a adj b": n(formula.Adjacent, "a", "b"), "a on b": n(formula.Incident, "a", "b"),
		"a is 7": {Op: formula.HasLabel, Names: []string{"a"}, N: 7}, "size a mod 64 is 63": {Op: formula.SizeMod, Names: []string{"a"}, N: 63, M: 64},
		"f()": n(formula.Call, "f"), "f(a,b)": n(formula.Call, "f", "a", "b"), "((one a))": a,
		"one a and one b and one c":                op(formula.And, op(formula.And, a, b), c),
		"one a or one b and one c":                 op(formula.Or, a, op(formula.And, b, c)),
		"one a and one b or one c":                 op(formula.Or, op(formula.And, a, b), c),
		"one a implies one b implies one c":        op(formula.Implies, a, op(formula.Implies, b, c)),
		"one a iff one b iff one c":                op(formula.Iff, op(formula.Iff, a, b), c),
		"one a iff one b implies one c":            op(formula.Iff, a, op(formula.Implies, b, c)),
		"not one a and one b":                      op(formula.And, op(formula.Not, a), b),
		"not some set x: one a and one b":          op(formula.Not, some(op(formula.And, a, b))),
		"one a and some set x: one b or one c":     op(formula.And, a, some(op(formula.Or, b, c))),
		"one a and (some set x: one b) or one c":   op(formula.Or, op(formula.And, a, some(b)), c),
		"one a or some set x: one b implies one c": op(formula.Or, a, some(op(formula.Implies, b, c))),
	} {
		got, p, e := formula.ParseFormula(s)
		if e != api.OK || p != (lexer.Position{}) || !formula.Equal(got, want) {
			t.Error(s, got, p, e)
		}
	}
	q, _, e := formula.Parse("find vertex a, edge b, set c, edges d: every edges z: true")
	if e != api.OK || len(q.Free) != 4 || q.Free[0] != (formula.Var{Name: "a"}) || q.Free[3] != (formula.Var{Name: "d", Sort: formula.EdgeSet}) || q.Body.Op != formula.ForAll || q.Body.Sort != formula.EdgeSet {
		t.Error(q, e)
	}
}

func TestErrors(t *testing.T) {
	deep := func(s string, n int) string { return strings.Repeat(s, n) }
	names := func(n int) string { return strings.TrimSuffix(strings.Repeat("a,", n), ",") }
	for s, want := range map[string]struct {
		col int
		e   api.Errno
	}{
		"": {1, api.ErrFormat}, "a implies b": {3, api.ErrFormat}, "a": {2, api.ErrFormat}, "a = ": {5, api.ErrFormat}, "a = 1": {5, api.ErrFormat}, "a = find": {5, api.ErrFormat},
		"a is 8": {6, api.ErrRange}, "a is b": {6, api.ErrFormat}, "size a mod 0 is 0": {12, api.ErrRange}, "size a mod 65 is": {12, api.ErrRange}, "size a mod 3 is 3": {17, api.ErrRange}, "size a mod 3 = 3": {14, api.ErrFormat},
		"true)": {5, api.ErrFormat}, "(true": {6, api.ErrFormat}, "true true": {6, api.ErrFormat}, "true and": {9, api.ErrFormat}, "some x: true": {6, api.ErrFormat}, "some vertex: true": {12, api.ErrFormat}, "some vertex x true": {15, api.ErrFormat},
		"find: true": {5, api.ErrFormat}, "find set X true": {12, api.ErrFormat}, "find set X, : true": {13, api.ErrFormat}, "find set X, set X: true": {17, api.ErrDuplicate}, "find set X: find set Y: true": {13, api.ErrFormat}, "find set X, set X": {17, api.ErrDuplicate},
		"find set a,set b,set c,set d,set e,set f,set g,set h,set a: true": {58, api.ErrLimit}, "find set a,set b,set c,set d,set e,set f,set g,set h,set 1: true": {58, api.ErrFormat},
		"f(" + names(16) + ")": {}, "f(" + names(17) + ")": {35, api.ErrLimit}, "f(" + names(16) + ",": {35, api.ErrFormat}, "f(,)": {3, api.ErrFormat}, "f(a,)": {5, api.ErrFormat}, "f(a b)": {5, api.ErrFormat}, "f(": {3, api.ErrFormat},
		deep("not ", 255) + "true": {}, deep("not ", 256) + "true": {0, api.ErrDepth}, deep("not ", 257) + "true": {1025, api.ErrDepth}, deep("(", 256) + "true" + deep(")", 256): {}, deep("(", 257): {257, api.ErrDepth},
		deep("(not ", 128) + "some vertex x: true": {641, api.ErrDepth}, deep("(", 256) + "f()" + deep(")", 256): {}, deep("(true) and ", 300) + "true": {0, api.ErrDepth},
		deep("((true and true) and (true and true)) and ((true and true) and (true and true)) or ", 10) + "true": {},
		"a -": {3, api.ErrFormat}, "a 01 %": {3, api.ErrFormat}, "1 = a": {1, api.ErrFormat}, "some vertex x: x = y implies (": {31, api.ErrFormat}, "not": {4, api.ErrFormat}, "a mod 3 is 1": {3, api.ErrFormat}, ": true": {1, api.ErrFormat},
	} {
		q, p, e := formula.Parse(s)
		wantPos := lexer.Position{Line: 1, Col: want.col}
		if want.col == 0 {
			wantPos = lexer.Position{}
		}
		if e != want.e || p != wantPos || e != api.OK && (len(q.Free) > 0 || !formula.Equal(q.Body, formula.Node{})) {
			t.Errorf("%.60q %v %d", s, p, e)
		}
		if strings.HasPrefix(s, "find") {
			if _, p, e := formula.ParseFormula(s); e != api.ErrFormat || p.Col != 1 {
				t.Error(s, e)
			}
		}
	}
	if _, p, e := formula.Parse(balanced(12)); e != api.OK || p != (lexer.Position{}) {
		t.Error(e)
	}
	if _, p, e := formula.Parse("(" + balanced(12) + ") and true"); e != api.ErrLimit || p != (lexer.Position{}) {
		t.Error(e)
	}
	if _, p, e := formula.Parse(strings.Repeat(" ", 65537)); e != api.ErrRange || p != (lexer.Position{}) {
		t.Error(e)
	}
}

// balanced returns the text of a formula with 2^k - 1 nodes.
func balanced(k int) string {
	if k == 1 {
		return "true"
	}
	return "(" + balanced(k-1) + ") or (" + balanced(k-1) + ")"
}

// P10.2.
func TestCheck(t *testing.T) {
	a := n(formula.Singleton, "a")
	good := func(o int, l ...formula.Node) formula.Node { return op(o, l...) }
	for i, x := range []struct {
		n    formula.Node
		want api.Errno
	}{
		{n(-1), api.ErrKind}, {n(18), api.ErrKind}, {n(formula.True, "a"), api.ErrFormat}, {formula.Node{Sort: 1}, api.ErrFormat}, {formula.Node{N: 1}, api.ErrFormat}, {formula.Node{M: 1}, api.ErrFormat}, {op(formula.True, a), api.ErrFormat},
		{n(formula.Equals, "a"), api.ErrFormat}, {n(formula.Equals, "a", "in"), api.ErrFormat}, {n(formula.Call), api.ErrFormat}, {n(formula.Call, "f"), api.OK}, {n(formula.Call, strings.Split(strings.Repeat("a ", 17), " ")[:17]...), api.OK}, {n(formula.Call, strings.Split(strings.Repeat("a ", 18), " ")[:18]...), api.ErrFormat},
		{formula.Node{Op: formula.HasLabel, Names: []string{"a"}, N: 8}, api.ErrRange}, {formula.Node{Op: formula.HasLabel, Names: []string{"a"}, N: 8, M: 1}, api.ErrFormat}, {formula.Node{Op: formula.SizeMod, Names: []string{"a"}, N: 2, M: 2}, api.ErrRange}, {formula.Node{Op: formula.SizeMod, Names: []string{"a"}, M: 65}, api.ErrRange}, {formula.Node{Op: formula.SizeMod, Names: []string{"a"}}, api.ErrRange}, {formula.Node{Op: formula.SizeMod, Names: []string{"a"}, N: -1, M: 3}, api.ErrRange},
		{op(formula.Not), api.ErrFormat}, {op(formula.And, a), api.ErrFormat}, {good(formula.Iff, a, a), api.OK}, {formula.Node{Op: formula.Exists, Names: []string{"a"}, Sort: 4, L: []formula.Node{a}}, api.ErrRange}, {formula.Node{Op: formula.Exists, Names: []string{"a"}, Sort: -1}, api.ErrFormat},
		{op(formula.And, op(formula.Not), n(99)), api.ErrFormat}, {op(formula.And, n(99), op(formula.Not)), api.ErrKind}, {formula.Node{Op: formula.ForAll, Names: []string{"a"}, Sort: 9, L: []formula.Node{n(99)}}, api.ErrRange}, {n(formula.Singleton, ""), api.ErrFormat},
	} {
		if e := formula.Check(x.n); e != x.want {
			t.Error(i, e)
		}
		if e := formula.CheckQuery(formula.Query{Body: x.n}); e != x.want {
			t.Error(i, e)
		}
	}
	chain := a
	for range 255 {
		chain = op(formula.Not, chain)
	}
	wide := a
	for range 12 {
		wide = op(formula.And, wide, wide)
	}
	if formula.Check(chain) != api.OK || formula.Check(op(formula.Not, chain)) != api.ErrDepth || formula.Check(wide) != api.ErrLimit || formula.Size(wide) != 8191 || formula.Depth(wide) != 13 || formula.Check(op(formula.And, wide, op(formula.Not, chain))) != api.ErrLimit {
		t.Error("limits")
	}
	for i, x := range []struct {
		free []formula.Var
		want api.Errno
	}{{make([]formula.Var, 9), api.ErrLimit}, {[]formula.Var{{Name: "a"}, {Name: "b", Sort: 4}, {Name: ""}}, api.ErrRange}, {[]formula.Var{{Name: "in", Sort: 7}}, api.ErrFormat}, {[]formula.Var{{Name: "a"}, {Name: "a", Sort: -1}}, api.ErrRange}, {[]formula.Var{{Name: "a"}, {Name: "a", Sort: 2}, {Name: "1"}}, api.ErrDuplicate}, {[]formula.Var{{Name: "a"}}, api.ErrKind}} {
		if e := formula.CheckQuery(formula.Query{Free: x.free, Body: n(99)}); e != x.want {
			t.Error(i, e)
		}
	}
}

// P10.3 and P10.4.
func TestEqualAndClone(t *testing.T) {
	r := rand.New(rand.NewSource(1))
	for range 300 {
		q := sample.Query(r.Intn, r.Intn(4), 1+r.Intn(20))
		if formula.CheckQuery(q) != api.OK {
			t.Fatal(q)
		}
		c := formula.Clone(q.Body)
		if !formula.Equal(c, q.Body) || !formula.EqualQueries(q, formula.Query{Free: q.Free, Body: c}) {
			t.Fatal(q)
		}
		if len(c.L) > 0 {
			c.L[0].N++
			if formula.Equal(c, q.Body) {
				t.Fatal("shared")
			}
		}
		if len(c.Names) > 0 {
			c.Names[0] = "other"
			if q.Body.Names[0] == "other" {
				t.Fatal("shared")
			}
		}
	}
	a := n(formula.Singleton, "a")
	for _, b := range []formula.Node{n(formula.Call, "a"), n(formula.Singleton, "b"), n(formula.Singleton), {Op: formula.Singleton, Names: []string{"a"}, Sort: 1}, {Op: formula.Singleton, Names: []string{"a"}, M: 1}, op(formula.Singleton, a)} {
		if formula.Equal(a, b) || formula.EqualQueries(formula.Query{Body: a}, formula.Query{Body: b}) {
			t.Error(b)
		}
	}
	if !formula.Equal(formula.Node{Names: []string{}, L: []formula.Node{}}, formula.Node{}) || formula.EqualQueries(formula.Query{Free: []formula.Var{{Name: "a"}}}, formula.Query{}) {
		t.Error("Equal")
	}
	for i, s := range []string{"", "vertex", "edge", "set", "edges", ""} {
		if formula.SortName(i-1) != s {
			t.Error(s)
		}
	}
}
