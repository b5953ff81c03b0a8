package scope

import (
	"math/rand"
	"slices"
	"testing"

	"palmette/api"
	"palmette/formula"
	"palmette/sample"
)

func parse(s string) formula.Query {
	q, _, e := formula.Parse(s)
	if e != api.OK {
		panic(s)
	}
	return q
}

// P12.1.
func TestCheck(t *testing.T) {
	for s, want := range map[string]Problem{
		"x = y":                                         {api.ErrUnbound, "x"},
		"f(q)":                                          {api.ErrUnknown, "f"},
		"some vertex x: x = y":                          {api.ErrUnbound, "y"},
		"find vertex a, edge b: a = b":                  {api.ErrKind, "b"},
		"find vertex a, set b, edges c: a in b":         {},
		"find vertex a, set b, edges c: a in c":         {api.ErrKind, "c"},
		"find vertex a, set b, edges c: b in b":         {api.ErrKind, "b"},
		"find vertex a, set b, edges c: a in a":         {api.ErrKind, "a"},
		"find edge a, edges c: a in c":                  {},
		"find vertex a, set b: a sub b":                 {api.ErrKind, "a"},
		"find edges a, set b: a sub b":                  {api.ErrKind, "b"},
		"find edges a, set b: b sub b and a sub a":      {},
		"find vertex a, set b: a adj b":                 {},
		"find vertex a, edge b: a adj b":                {api.ErrKind, "b"},
		"find vertex a, edge b: a on b":                 {},
		"find set a, edges b: a on b and b on a":        {api.ErrKind, "b"},
		"find set a, vertex b: a on b":                  {api.ErrKind, "b"},
		"find vertex a: a is 1":                         {},
		"find vertex a: size a mod 2 is 1":              {api.ErrKind, "a"},
		"find edge a: one a":                            {api.ErrKind, "a"},
		"find edges a: one a and size a mod 3 is 1":     {},
		"find set X: (some vertex X: X is 1) and one X": {},
		"some set X: some vertex X: one X":              {api.ErrKind, "X"},
		"find set X: X = X and (g(X) or x = x)":         {api.ErrUnknown, "g"},
		"find set X: X = z and g(X)":                    {api.ErrUnbound, "z"},
		"z adj y":                                       {api.ErrUnbound, "z"},
	} {
		if p := Check(parse(s)); p != want {
			t.Error(s, p)
		}
	}
	if p := Check(formula.Query{Free: make([]formula.Var, 9)}); p != (Problem{Code: api.ErrLimit}) {
		t.Error(p)
	}
	r := rand.New(rand.NewSource(1))
	for range 500 {
		if q := sample.Query(r.Intn, r.Intn(4), 1+r.Intn(15)); Check(q) != (Problem{}) {
			t.Fatal(q)
		}
	}
}

// P12.2 and P12.3.
func TestNames(t *testing.T) {
	q := parse("some vertex x: (x adj y and f(z, x, y)) or (some set x: one x and some edge w: w = v) or x = u")
	if l := Free(q.Body); !slices.Equal(l, []string{"y", "z", "v", "u"}) {
		t.Error(l)
	}
	if l := Bound(q.Body); !slices.Equal(l, []string{"x", "w"}) {
		t.Error(l)
	}
	for _, x := range []struct {
		name  string
		taken []string
		want  string
	}{{"a", nil, "a"}, {"a", []string{"a"}, "a2"}, {"a", []string{"a", "a2", "a3", "b"}, "a4"}, {"abcdefghijklmnop", []string{"abcdefghijklmnop"}, "abcdefghijklmno2"}, {"1", nil, ""}, {"some", nil, ""}, {"", []string{""}, ""}, {"x2", []string{"x2"}, "x22"}} {
		if s := Fresh(x.name, x.taken); s != x.want {
			t.Error(x, s)
		}
	}
	taken := []string{"abcdefghijklmnop"}
	for _, k := range []string{"2", "3", "4", "5", "6", "7", "8", "9"} {
		taken = append(taken, "abcdefghijklmno"+k)
	}
	if s := Fresh("abcdefghijklmnop", taken); s != "abcdefghijklmn10" {
		t.Error(s)
	}
}

// P12.4 and P12.7.
func TestRename(t *testing.T) {
	for _, x := range []struct{ s, from, to, want string }{
		{"some vertex y : x adj y", "x", "y", "some vertex y2 : y adj y2"},
		{"some vertex x : x adj y", "x", "y", "some vertex x : x adj y"},
		{"some vertex y : x adj y and y2 = y", "x", "y", "some vertex y3 : y adj y3 and y2 = y3"},
		{"some vertex y : some vertex y : x adj y", "x", "y", "some vertex y2 : some vertex y2 : y adj y2"},
		{"some vertex y : x = y and some vertex y : y is 1", "x", "y", "some vertex y2 : y = y2 and some vertex y : y is 1"},
		{"some vertex y : z = y", "x", "y", "some vertex y : z = y"},
		{"f(x, x, y) and x is 1", "x", "q", "f(q, q, y) and q is 1"},
		{"x is 1", "x", "x", "x is 1"},
	} {
		n, e := Rename(parse(x.s).Body, x.from, x.to)
		if e != api.OK || !formula.Equal(n, parse(x.want).Body) {
			t.Error(x, n)
		}
	}
	for _, x := range []struct {
		n        formula.Node
		from, to string
		want     api.Errno
	}{{formula.Node{Op: 99}, "1", "a", api.ErrKind}, {formula.Node{}, "1", "a", api.ErrFormat}, {formula.Node{}, "a", "in", api.ErrFormat}, {formula.Node{}, "in", "in", api.ErrFormat}} {
		if n, e := Rename(x.n, x.from, x.to); e != x.want || !formula.Equal(n, formula.Node{}) {
			t.Error(e)
		}
	}
	r := rand.New(rand.NewSource(2))
	for range 500 {
		q := sample.Query(r.Intn, 3, 1+r.Intn(15))
		before := formula.Clone(q.Body)
		there, _ := Rename(q.Body, "f0", "new")
		back, _ := Rename(there, "new", "f0")
		if !formula.Equal(back, q.Body) || !formula.Equal(before, q.Body) {
			t.Fatal(q)
		}
		free := slices.Clone(q.Free)
		for i := range free {
			if free[i].Name == "f0" {
				free[i].Name = "x"
			}
		}
		if captured, _ := Rename(q.Body, "f0", "x"); Check(formula.Query{Free: free, Body: captured}) != (Problem{}) {
			t.Fatal(q)
		}
	}
}

// P12.5 to P12.7.
func TestUniqueBinders(t *testing.T) {
	q, e := UniqueBinders(parse("find set X: some vertex x : x in X and some vertex x : x is 1 and some set X: one X and u = u and some edge u: u is 1"))
	if e != api.OK || !formula.EqualQueries(q, parse("find set X: some vertex x : x in X and some vertex x2 : x2 is 1 and some set X2: one X2 and u = u and some edge u2: u2 is 1")) {
		t.Error(q)
	}
	if q, e := UniqueBinders(formula.Query{Body: formula.Node{Op: 99}}); e != api.ErrKind || q.Body.Op != 0 {
		t.Error(e)
	}
	r := rand.New(rand.NewSource(3))
	for range 500 {
		q := sample.Query(r.Intn, r.Intn(4), 1+r.Intn(20))
		u, e := UniqueBinders(q)
		again, _ := UniqueBinders(u)
		if e != api.OK || !AlphaEquivalent(q, u) || !formula.EqualQueries(u, again) || Check(u).Code != Check(q).Code || len(Bound(u.Body)) != Quantifiers(q.Body) {
			t.Fatal(q, u)
		}
	}
}

func TestAlphaEquivalent(t *testing.T) {
	for _, x := range []struct {
		a, b string
		want bool
	}{
		{"some vertex x: x is 1", "some vertex y: y is 1", true}, {"some vertex x: x is 1", "some vertex y: y is 2", false}, {"some vertex x: x is 1", "some edge y: y is 1", false},
		{"some vertex x: some vertex y: x adj y", "some vertex y: some vertex x: y adj x", true}, {"some vertex x: some vertex y: x adj y", "some vertex y: some vertex x: x adj y", false},
		{"find vertex x: x is 1", "find vertex y: y is 1", false}, {"x is 1", "x is 1", true}, {"some vertex x: x = y", "some vertex y: y = y", false}, {"some vertex x: y = y", "some vertex y: y = y", false}, {"f(x)", "g(x)", false}, {"some vertex x: f(x)", "some vertex f: f(f)", true}, {"true", "false", false}, {"some vertex x: some vertex x: x is 1", "some vertex x: some vertex y: x is 1", false},
	} {
		if AlphaEquivalent(parse(x.a), parse(x.b)) != x.want {
			t.Error(x)
		}
	}
	n := parse("some set X: (every vertex x: x in X) and not every edges Y: some edge y: y in Y").Body
	if QuantifierRank(n) != 3 || SetQuantifiers(n) != 2 || Quantifiers(n) != 4 || QuantifierRank(parse("true").Body) != 0 {
		t.Error("counts")
	}
}
