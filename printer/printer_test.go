package printer

import (
	"math/rand"
	"slices"
	"strings"
	"testing"

	"palmette/api"
	"palmette/formula"
	"palmette/sample"
)

// P11.1 and P11.3: round trips, and no parentheses can be omitted.
func TestPrint(t *testing.T) {
	r := rand.New(rand.NewSource(1))
	for range 2000 {
		q := sample.Query(r.Intn, r.Intn(4), 1+r.Intn(14))
		s, e := Print(q)
		again, _, f := formula.Parse(s)
		if e != api.OK || f != api.OK || !formula.EqualQueries(q, again) {
			t.Fatal(s)
		}
		words := strings.Split(s, " ")
		if slices.Contains(words, "") {
			t.Fatal("blanks", s)
		}
		for i, w := range words {
			if w != "(" {
				continue
			}
			level, end := 0, i
			for ; end == i || level > 0; end++ {
				switch words[end] {
				case "(":
					level++
				case ")":
					level--
				}
			}
			less := slices.Delete(slices.Delete(slices.Clone(words), end-1, end), i, i+1)
			if other, _, e := formula.Parse(strings.Join(less, " ")); e == api.OK && formula.EqualQueries(other, q) {
				t.Fatal("superfluous", s)
			}
		}
	}
}

func TestForms(t *testing.T) {
	for s, want := range map[string]string{
		"find  set X,edges Y:(((one X)) and one Y)and true":   "find set X , edges Y : one X and one Y and true",
		"true and (true and false)":                           "true and ( true and false )",
		"(true or false) and some vertex x: x in X":           "( true or false ) and some vertex x : x in X",
		"(not (some vertex x: true)) and false":               "not ( some vertex x : true ) and false",
		"not not true":                                        "not not true",
		"not (true and false)":                                "not ( true and false )",
		"(true implies true) implies (true implies false)":    "( true implies true ) implies true implies false",
		"(true iff false) iff (true iff false)":               "true iff false iff ( true iff false )",
		"f(a,b) or g() or size X mod 3 is 2 or x is 4":        "f ( a , b ) or g ( ) or size X mod 3 is 2 or x is 4",
		"a = b or a in b or a sub b or a adj b or a on b":     "a = b or a in b or a sub b or a adj b or a on b",
		"(every edge e: true) implies some edges Y: false":    "( every edge e : true ) implies some edges Y : false",
		"true implies (true or false) implies (true iff a=b)": "true implies true or false implies ( true iff a = b )",
	} {
		q, _, e := formula.Parse(s)
		got, f := Print(q)
		if e != api.OK || f != api.OK || got != want {
			t.Error(got, "|", want)
		}
		if n, e := Node(q.Body); len(q.Free) == 0 && n != want || e != api.OK {
			t.Error(n)
		}
	}
}

// P11.2.
func TestTree(t *testing.T) {
	q, _, _ := formula.Parse("find set X, edge e: not (one X and some vertex v: v on e implies true)")
	s, e := Tree(q)
	if e != api.OK || s != "find set X , edge e :\nnot\n  and\n    one X\n    some vertex v :\n      implies\n        v on e\n        true\n" {
		t.Error(s)
	}
	q.Free = nil
	if s, _ := Tree(q); !strings.HasPrefix(s, "not\n  and\n") {
		t.Error(s)
	}
}

func TestErrors(t *testing.T) {
	bad := formula.Node{Op: formula.Not}
	for _, f := range []func() (string, api.Errno){
		func() (string, api.Errno) { return Print(formula.Query{Body: bad}) },
		func() (string, api.Errno) { return Tree(formula.Query{Body: bad}) },
		func() (string, api.Errno) { return Node(bad) },
	} {
		if s, e := f(); s != "" || e != api.ErrFormat {
			t.Error(s, e)
		}
	}
	if s, e := Print(formula.Query{Free: make([]formula.Var, 9)}); s != "" || e != api.ErrLimit {
		t.Error(e)
	}
	long := formula.Node{Op: formula.Call, Names: slices.Repeat([]string{"abcdefghijklmnop"}, 17)}
	wide := long
	for range 8 {
		wide = formula.Node{Op: formula.Or, L: []formula.Node{wide, wide}}
	}
	if s, e := Print(formula.Query{Body: wide}); s != "" || e != api.ErrRange {
		t.Error(len(s), e)
	}
	if s, e := Tree(formula.Query{Body: wide}); s == "" || e != api.OK {
		t.Error(e)
	}
}
