package rankedtree

import (
	"math/rand"
	"slices"
	"strings"
	"testing"

	"palmette/api"
)

func parse(s string) Tree {
	t, e := Parse(s)
	if e != api.OK {
		panic(s)
	}
	return t
}

// P31.1 and P31.2.
func TestCheck(t *testing.T) {
	deep := parse("0")
	for range 255 {
		deep = Tree{1, []Tree{deep}}
	}
	wide := parse("0")
	for range 11 {
		wide = Tree{2, []Tree{wide, wide}}
	}
	a := Alphabet{0, 1, 2}
	for i, x := range []struct {
		a    Alphabet
		t    Tree
		want api.Errno
	}{
		{nil, Tree{}, api.ErrRange}, {make(Alphabet, 4097), Tree{}, api.ErrRange}, {Alphabet{1, 3}, Tree{}, api.ErrFormat}, {Alphabet{0, -1}, Tree{}, api.ErrFormat}, {Alphabet{1, 2}, Tree{}, api.ErrNotFound}, {make(Alphabet, 4096), Tree{}, api.OK},
		{a, deep, api.OK}, {a, Tree{7, []Tree{deep}}, api.ErrDepth}, {a, wide, api.OK}, {a, Tree{7, []Tree{wide, deep, deep}}, api.ErrRange}, {a, Tree{Symbol: 3}, api.ErrUnknown}, {a, Tree{Symbol: -1}, api.ErrUnknown}, {a, Tree{1, nil}, api.ErrFormat}, {a, Tree{1, []Tree{{2, nil}}}, api.ErrFormat}, {a, Tree{2, []Tree{{Symbol: 9}, {1, nil}}}, api.ErrUnknown}, {a, Tree{2, []Tree{{1, nil}, {Symbol: 9}}}, api.ErrFormat}, {a, parse("2(0,1(0))"), api.OK},
	} {
		if e := Valid(x.a, x.t); e != x.want {
			t.Error(i, e)
		}
	}
	if l := (Alphabet{5, 0, 2, 0, 5}).Symbols(0); !slices.Equal(l, []int{1, 3}) || len(a.Symbols(7)) != 0 || !slices.Equal(Alphabet{5, -5}.Symbols(-5), []int{1}) {
		t.Error(l)
	}
}

// P31.3 and P31.5.
func TestAll(t *testing.T) {
	var texts []string
	for x := range All(Alphabet{0, 1, 2}) {
		if texts = append(texts, Format(x)); len(texts) == 8 {
			break
		}
	}
	if s := strings.Join(texts, "; "); s != "0; 1(0); 1(1(0)); 2(0,0); 1(1(1(0))); 1(2(0,0)); 2(0,1(0)); 2(1(0),0)" {
		t.Error(s)
	}
	for i, a := range []Alphabet{{0, 2, 1, 0, 2}, {2, 1, 0}, {0, 0}, {2, 0}} {
		var l []Tree
		seen := map[string]bool{}
		counts := map[int]int{}
		for x := range All(a) {
			if Size(x) > 6 || len(l) > 4000 {
				break
			}
			if len(l) > 0 && (Compare(l[len(l)-1], x) != -1 || Compare(x, l[len(l)-1]) != 1) || Valid(a, x) != api.OK || seen[Format(x)] || Compare(x, x) != 0 {
				t.Fatal(Format(x))
			}
			seen[Format(x)] = true
			l = append(l, x)
			counts[Size(x)]++
			if len(x.Children) > 0 {
				x.Children[0].Symbol = 0
			}
		}
		if want := []map[int]int{nil, {1: 1, 2: 1, 3: 2, 4: 4, 5: 9, 6: 21}, {1: 2}, {1: 1, 3: 1, 5: 2}}[i]; want != nil {
			for size := 1; size <= 6; size++ {
				if counts[size] != want[size] {
					t.Error(a, size, counts[size])
				}
			}
		}
	}
	n := 0
	for range All(Alphabet{0, 1}) {
		n++
	}
	if n != 256 {
		t.Error(n)
	}
	for range All(Alphabet{1}) {
		t.Error("invalid")
	}
}

func random(r *rand.Rand, depth int) Tree {
	x := Tree{Symbol: r.Intn(5)}
	for range r.Intn(3) * min(depth, 1) {
		x.Children = append(x.Children, random(r, depth-1))
	}
	return x
}

// order follows the document.
func order(s, t Tree) int {
	d := []int{Size(s) - Size(t), s.Symbol - t.Symbol, len(s.Children) - len(t.Children)}
	for _, x := range d {
		if x != 0 {
			return x
		}
	}
	for i := range s.Children {
		if c := order(s.Children[i], t.Children[i]); c != 0 {
			return c
		}
	}
	return 0
}

// P31.3, P31.4, P31.6 and P31.7.
func TestRandomTrees(t *testing.T) {
	r := rand.New(rand.NewSource(1))
	for range 3000 {
		x, y := random(r, 3), random(r, 3)
		c, d := Compare(x, y), order(x, y)
		if c != Compare(x, y) || (c < 0) != (d < 0) || (c > 0) != (d > 0) || Compare(y, x) != -c || Equal(x, y) != (c == 0) {
			t.Fatal(x, y, c)
		}
		if z, e := Parse(Format(x)); e != api.OK || !Equal(z, x) {
			t.Fatal(Format(x))
		}
		var path []int
		at := x
		for len(at.Children) > 0 && r.Intn(3) > 0 {
			i := r.Intn(len(at.Children))
			path, at = append(path, i), at.Children[i]
		}
		part, is := Subtree(x, path)
		same, e := Replace(x, path, part)
		if !is || e != api.OK || !Equal(part, at) || !Equal(same, x) {
			t.Fatal(path)
		}
		other, _ := Replace(x, path, y)
		if got, _ := Subtree(other, path); !Equal(got, y) || Size(other) != Size(x)-Size(part)+Size(y) {
			t.Fatal(path)
		}
		bad := append(path, len(at.Children))
		if z, is := Subtree(x, bad); is || !Equal(z, Tree{}) {
			t.Fatal(bad)
		}
		if z, e := Replace(x, append(path, -1), y); e != api.ErrNotFound || !Equal(z, Tree{}) {
			t.Fatal(e)
		}
		if z := Clone(x); len(z.Children) > 0 {
			z.Children[0].Symbol = 77
			if x.Children[0].Symbol == 77 {
				t.Fatal("shared")
			}
		}
	}
	if !Equal(Tree{Children: []Tree{}}, Tree{}) || Depth(parse("2(0,1(0))")) != 3 {
		t.Error("Equal")
	}
}

func TestParse(t *testing.T) {
	for s, want := range map[string]api.Errno{"": api.ErrFormat, "00": api.ErrFormat, "4095": api.OK, "4096": api.ErrFormat, "99999999999999999999999": api.ErrFormat, "-1": api.ErrFormat, "1()": api.ErrFormat, "1(0": api.ErrFormat, "1(0))": api.ErrFormat, "1(0,)": api.ErrFormat, "1(0,0,0)": api.ErrFormat, "1(0, 0)": api.ErrFormat, "1 ": api.ErrFormat, "(0)": api.ErrFormat, strings.Repeat("1(", 255) + "0" + strings.Repeat(")", 255): api.OK, strings.Repeat("1(", 256) + "0" + strings.Repeat(")", 256): api.ErrDepth, strings.Repeat("1(0,", 2048) + "0" + strings.Repeat(")", 2048): api.ErrRange, strings.Repeat("1(", 30000): api.ErrFormat, strings.Repeat("x", 65537): api.ErrLong} {
		if x, e := Parse(s); e != want || e != api.OK && !Equal(x, Tree{}) {
			t.Errorf("%.20q %d", s, e)
		}
	}
}
