package kernel

import (
	"math/rand"
	"slices"
	"strings"
	"testing"

	"palmette/api"
	"palmette/bitset"
	"palmette/formula"
	"palmette/graph"
	"palmette/sample"
	"palmette/semantics"
)

func parse(t *testing.T, s string) Kernel {
	k, e := Parse(s)
	if e != api.OK {
		t.Fatal(s, e)
	}
	return k
}

func fromText(t *testing.T, s string) Kernel {
	q, _, e := formula.Parse(s)
	k, f := FromQuery(q)
	if e != api.OK || f != api.OK {
		t.Fatal(s, e, f)
	}
	return k
}

// P18.1: the translation.
func TestFromQuery(t *testing.T) {
	for s, want := range map[string]string{
		"find set X: some vertex v: v in X":   "v (ex v (and (one 1) (sub 1 0)))",
		"true and false":                      "- (and (and) (or))",
		"find edge e, set X, vertex v: e = e": "evv (and (one 0) (one 2) (and (sub 0 0) (sub 0 0)))",
		"find set X, edges Y: X adj X or X on Y or size Y mod 3 is 2 or one X or X is 5 or X sub X": "ve (or (or (or (or (or (adj 0 0) (on 0 1)) (size 1 2 3)) (one 0)) (is 0 5)) (sub 0 0))",
		"every edges Y: every edge e: some edges Z: e in Z":                                         "- (not (ex e (not (not (ex e (and (one 1) (not (ex e (sub 1 2)))))))))",
		"every vertex v: v is 1 implies (v is 2 iff v is 3)":                                        "- (not (ex v (and (one 0) (not (or (not (is 0 1)) (and (or (not (is 0 2)) (is 0 3)) (or (not (is 0 3)) (is 0 2))))))))",
		"find set X: (some set X: one X) and not one X":                                             "v (and (ex v (one 1)) (not (one 0)))",
	} {
		if text, e := Format(fromText(t, s)); text != want || e != api.OK {
			t.Error(text)
		}
	}
	nested := formula.Node{}
	for range 17 {
		nested = formula.Node{Op: formula.Exists, Names: []string{"x"}, L: []formula.Node{nested}}
	}
	iff := formula.Node{}
	for range 250 {
		iff = formula.Node{Op: formula.Iff, L: []formula.Node{iff, {}}}
	}
	for _, x := range []struct {
		q    formula.Query
		want api.Errno
	}{{formula.Query{Body: formula.Node{Op: 99}}, api.ErrKind}, {formula.Query{Body: formula.Node{Op: formula.Call, Names: []string{"f"}}}, api.ErrUnknown}, {formula.Query{Body: formula.Node{Op: formula.Singleton, Names: []string{"f"}}}, api.ErrUnbound}, {formula.Query{Body: nested}, api.ErrLimit}, {formula.Query{Body: iff}, api.ErrLimit}} {
		if k, e := FromQuery(x.q); e != x.want || !Equal(k, Kernel{}) {
			t.Error(e)
		}
	}
}

// P18.7: kernels are equivalent to their queries.
func TestEquivalence(t *testing.T) {
	r := rand.New(rand.NewSource(1))
	for range 300 {
		q := sample.Query(r.Intn, r.Intn(3), 1+r.Intn(8))
		g := sample.Graph(r.Intn, r.Intn(4))
		k, e := FromQuery(q)
		if e != api.OK {
			t.Fatal(e)
		}
		text, _ := Format(k)
		if again, e := Parse(text); e != api.OK || !Equal(again, k) || Size(k.Root) != translatedSize(q.Body)+elements(q) {
			t.Fatal(text)
		}
		if Cost(g, k) > 1<<22 {
			continue
		}
		want, _ := semantics.Solutions(g, q, 1<<60)
		var got [][]bitset.Set
		some := map[int]bool{}
		assignments(g, k.Sorts, func(rows []bitset.Set) {
			is, e := Holds(g, k, rows, 1<<60)
			neg, _ := Negate(k)
			not, f := Holds(g, neg, rows, 1<<60)
			if e != api.OK || f != api.OK || is == not {
				t.Fatal(e, f)
			}
			if is {
				got = append(got, slices.Clone(rows))
				some[len(rows)] = true
			}
		})
		if !slices.EqualFunc(got, want, slices.Equal[[]bitset.Set]) {
			t.Fatal(text, got, want)
		}
		if p, e := Project(k); len(k.Sorts) == 1 {
			if is, f := Holds(g, p, nil, 1<<60); e != api.OK || f != api.OK || is != some[1] {
				t.Fatal(e, f)
			}
		}
	}
}

func elements(q formula.Query) int {
	n := 0
	for _, v := range q.Free {
		if v.Sort < formula.VertexSet {
			n++
		}
	}
	if n > 0 {
		n++
	}
	return n
}

func assignments(g *graph.Graph, sorts []int, take func([]bitset.Set)) {
	var assign func(rows []bitset.Set)
	assign = func(rows []bitset.Set) {
		if len(rows) == len(sorts) {
			take(rows)
			return
		}
		all := g.VertexSet()
		if sorts[len(rows)] == Edges {
			all = g.EdgeSet()
		}
		for s := range all.Subsets() {
			assign(append(slices.Clip(rows), s))
		}
	}
	assign(nil)
}

// P18.2.
func TestCheck(t *testing.T) {
	leaf := Node{Op: And}
	deep := leaf
	for range 1023 {
		deep = node(Not, deep)
	}
	wide := Node{Op: Or, L: slices.Repeat([]Node{leaf}, 8191)}
	inner := func(n Node) Node { return Node{Op: Exists, Sort: Edges, L: []Node{n}} }
	scoped := leaf
	for range 16 {
		scoped = inner(scoped)
	}
	for i, x := range []struct {
		k    Kernel
		want api.Errno
	}{
		{Kernel{make([]int, 17), Node{Op: 99}}, api.ErrLimit}, {Kernel{[]int{2}, Node{Op: 99}}, api.ErrKind}, {Kernel{nil, Node{Op: 10}}, api.ErrKind}, {Kernel{nil, Node{Op: -1}}, api.ErrKind},
		{Kernel{nil, Node{Op: Not}}, api.ErrFormat}, {Kernel{nil, Node{Op: Subset, L: []Node{leaf}}}, api.ErrFormat}, {Kernel{[]int{0}, Node{Op: Singleton, B: 1}}, api.ErrFormat}, {Kernel{[]int{0}, Node{Op: Singleton, M: 1}}, api.ErrFormat}, {Kernel{nil, Node{Op: And, Sort: 1}}, api.ErrFormat}, {Kernel{nil, Node{Op: Or, N: 1}}, api.ErrFormat}, {Kernel{nil, Node{Op: Exists, A: 1, L: []Node{leaf}}}, api.ErrFormat},
		{Kernel{nil, Node{Op: Singleton}}, api.ErrUnknown}, {Kernel{[]int{0}, Node{Op: Subset, B: 1}}, api.ErrUnknown}, {Kernel{[]int{0}, Node{Op: Singleton, A: -1}}, api.ErrUnknown}, {Kernel{[]int{0, 1}, Node{Op: Subset, B: 1}}, api.ErrKind}, {Kernel{[]int{0, 1}, Node{Op: Adjacent, B: 1}}, api.ErrKind}, {Kernel{[]int{0, 1}, Node{Op: Incident}}, api.ErrKind}, {Kernel{[]int{0, 1}, Node{Op: Incident, A: 1, B: 1}}, api.ErrKind}, {Kernel{[]int{0, 1}, Node{Op: Incident, B: 1}}, api.OK},
		{Kernel{[]int{1}, Node{Op: SizeMod, M: 65}}, api.ErrRange}, {Kernel{[]int{1}, Node{Op: SizeMod, M: 3, N: 3}}, api.ErrRange}, {Kernel{[]int{1}, Node{Op: SizeMod, M: 3, N: -1}}, api.ErrRange}, {Kernel{[]int{1}, Node{Op: HasLabel, N: 8}}, api.ErrRange}, {Kernel{nil, Node{Op: HasLabel, N: 8}}, api.ErrUnknown},
		{Kernel{nil, Node{Op: Exists, Sort: 2, L: []Node{leaf}}}, api.ErrKind}, {Kernel{nil, scoped}, api.OK}, {Kernel{nil, inner(scoped)}, api.ErrLimit}, {Kernel{make([]int, 16), inner(leaf)}, api.ErrLimit}, {Kernel{nil, deep}, api.OK}, {Kernel{nil, node(Not, deep)}, api.ErrDepth}, {Kernel{nil, wide}, api.OK}, {Kernel{nil, node(Not, wide)}, api.ErrLimit}, {Kernel{nil, node(And, inner(Node{Op: Not}), Node{Op: 99})}, api.ErrFormat}, {Kernel{nil, node(And, inner(Node{Op: Singleton}), Node{Op: Singleton})}, api.ErrUnknown},
	} {
		if e := Check(x.k); e != x.want {
			t.Error(i, e)
		}
		s, e := Format(x.k)
		if e != x.want || e != api.OK && s != "" {
			t.Error(i, e)
		}
		for _, by := range []func(Kernel) (Kernel, api.Errno){Negate, Project, func(k Kernel) (Kernel, api.Errno) { return Conjoin(k, Kernel{[]int{9}, leaf}) }} {
			if k, e := by(x.k); x.want != api.OK && (e != x.want || !Equal(k, Kernel{})) {
				t.Error(i, e)
			}
		}
	}
	if TrackCount(Kernel{[]int{0}, node(And, inner(inner(leaf)), inner(leaf))}) != 3 || TrackCount(Kernel{nil, Node{Op: Not}}) != 0 || TrackCount(Kernel{[]int{0, 1}, leaf}) != 2 {
		t.Error("TrackCount")
	}
	if _, e := Negate(Kernel{nil, deep}); e != api.ErrDepth {
		t.Error(e)
	}
	if _, e := Project(Kernel{nil, leaf}); e != api.ErrNotFound {
		t.Error(e)
	}
	if _, e := Conjoin(Kernel{[]int{0}, leaf}, Kernel{[]int{1}, leaf}); e != api.ErrKind {
		t.Error(e)
	}
	if _, e := Conjoin(Kernel{[]int{0}, leaf}, Kernel{[]int{1}, Node{Op: Not}}); e != api.ErrFormat {
		t.Error(e)
	}
	if k, e := Conjoin(Kernel{[]int{1}, leaf}, Kernel{[]int{1}, node(Or)}); e != api.OK || !Equal(k, parse(t, "e (and (and) (or))")) {
		t.Error(e)
	}
	if k, e := Project(parse(t, "ve (on 0 1)")); e != api.OK || !Equal(k, parse(t, "v (ex e (on 0 1))")) {
		t.Error(e)
	}
}

// P18.3.
func TestCostAndHolds(t *testing.T) {
	g := sample.Path(3)
	for s, want := range map[string]int{"- (and)": 1, "- (or (and) (and (and) (and)))": 3, "- (ex v (and (one 0) (one 0)))": 16, "- (ex e (not (one 0)))": 4} {
		if c := Cost(g, parse(t, s)); c != want || Cost(nil, parse(t, s)) != 0 {
			t.Error(s, c)
		}
	}
	for want, n := range map[int]Node{1: {Op: -7, L: []Node{{}, {}}}, 2: {Op: 12, L: []Node{{}, {}}}, 0: {Op: Exists}, 24: {Op: Exists, Sort: 5, L: []Node{{}, {}, {}}}} {
		if c := Cost(g, Kernel{nil, n}); c != want {
			t.Error(n, c)
		}
	}
	if c := Cost(sample.Path(61), parse(t, "- (ex v (ex v (and)))")); c != 1<<60 {
		t.Error(c)
	}
	k := parse(t, "ve (on 0 1)")
	for _, x := range []struct {
		g    *graph.Graph
		k    Kernel
		rows []bitset.Set
		most int
		want api.Errno
	}{{nil, Kernel{nil, Node{Op: 99}}, nil, 0, api.ErrArgument}, {g, Kernel{nil, Node{Op: 99}}, nil, 0, api.ErrKind}, {g, k, make([]bitset.Set, 1), 0, api.ErrFormat}, {g, k, []bitset.Set{bitset.Of(3), {}}, 0, api.ErrNotFound}, {g, k, []bitset.Set{{}, bitset.Of(2)}, 0, api.ErrNotFound}, {g, k, make([]bitset.Set, 2), 0, api.ErrBudget}, {g, k, make([]bitset.Set, 2), 1, api.OK}} {
		if is, e := Holds(x.g, x.k, x.rows, x.most); is || e != x.want {
			t.Error(e)
		}
	}
}

// P18.4 and P18.6.
func TestText(t *testing.T) {
	for s, want := range map[string]api.Errno{
		"": api.ErrFormat, "-": api.ErrFormat, "- ": api.ErrFormat, " (and)": api.ErrFormat, "v(and)": api.ErrFormat, "- (and) ": api.ErrFormat, "- (and )": api.ErrFormat, "- ( and)": api.ErrFormat, "- (nand)": api.ErrFormat, "-v (and)": api.ErrFormat, "x (and)": api.ErrFormat, "- (ex (and))": api.ErrFormat, "v (one)": api.ErrFormat, "v (one 00)": api.ErrFormat, "v (one -1)": api.ErrFormat, "v (one 0 0)": api.ErrFormat, "v (one 1073741825)": api.ErrFormat, "v (one 1073741824)": api.ErrUnknown, "v (one 0 (and))": api.ErrFormat, "- (and(and))": api.ErrFormat, "- (and": api.ErrFormat,
		"- (not)": api.ErrFormat, "- (ex v)": api.ErrFormat, "- (ex v (and) (and))": api.ErrFormat, "- (not (and) (and))": api.ErrFormat, "vvvvvvvvvvvvvvvvv (and)": api.ErrLimit, "v (size 0 3 2)": api.ErrRange, "- (one 0)": api.ErrUnknown, strings.Repeat("v", 1<<20+1): api.ErrLong, "- " + strings.Repeat("(not ", 100000): api.ErrFormat, "- " + strings.Repeat("(not ", 5000) + "(and)" + strings.Repeat(")", 5000): api.ErrDepth, "- (ex w (and))": api.ErrFormat,
	} {
		if k, e := Parse(s); e != want || !Equal(k, Kernel{}) {
			t.Errorf("%.40q %d", s, e)
		}
	}
	k := parse(t, "ev (ex v (or (size 0 2 3) (not (is 2 7))))")
	c := Clone(k)
	c.Root.L[0].L[0].N, c.Sorts[0] = 1, 0
	if Equal(k, c) || k.Root.L[0].L[0].N != 2 || k.Sorts[0] != Edges || Depth(k.Root) != 4 || Size(k.Root) != 5 {
		t.Error("Clone")
	}
	for _, n := range []Node{{Op: 1}, {A: 1}, {B: 1}, {N: 1}, {M: 1}, {Sort: 1}, {L: []Node{{}}}} {
		if Equal(Kernel{nil, Node{}}, Kernel{nil, n}) {
			t.Error(n)
		}
	}
}
