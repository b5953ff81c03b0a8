package certificate

import (
	"math/rand"
	"reflect"
	"strconv"
	"strings"
	"testing"

	"palmette/api"
	"palmette/bignat"
	"palmette/count"
	"palmette/kernel"
	"palmette/nicedecomp"
	"palmette/optimize"
	"palmette/run"
	"palmette/sample"
	"palmette/term"
)

func parse(s string) kernel.Kernel {
	k, e := kernel.Parse(s)
	if e != api.OK {
		panic(s)
	}
	return k
}

func read(s string) term.Term {
	t, e := term.Parse(s)
	if e != api.OK {
		panic(s)
	}
	return t
}

// P50.1 and P50.5.
func TestMake(t *testing.T) {
	r := rand.New(rand.NewSource(1))
	for range 80 {
		k, e := kernel.FromQuery(sample.Query(r.Intn, r.Intn(3), 1+r.Intn(7)))
		n := r.Intn(4)
		g := sample.Graph(r.Intn, n)
		x, _ := nicedecomp.FromOrder(g, r.Perm(n))
		if e != api.OK {
			continue
		}
		all, e := count.All(k, x)
		best, is, f := optimize.Optimum(k, x, false)
		if e != api.OK || f != api.OK {
			continue
		}
		cost := "none"
		if is {
			cost = strconv.Itoa(best)
		}
		for kind, want := range []string{strconv.FormatBool(is), all.String(), cost} {
			c, e := Make(kind, k, x)
			if e != api.OK || c.Kind != kind || c.Answer != want || !term.Equal(c.Term, x) || c.Check() != api.OK || len(c.Tables) != term.Size(x) {
				t.Fatal(kind, c.Answer, want, e)
			}
			s, e := c.Format()
			again, line, f := Parse(s)
			if e != api.OK || f != api.OK || line != 0 || !Equal(again, c) {
				t.Fatal(s, line, f)
			}
		}
	}
}

func TestExample(t *testing.T) {
	x := read("f0(v0,0,0,0)")
	c, e := Make(Count, parse("v (not (adj 0 0))"), x)
	s, f := c.Format()
	if e != api.OK || f != api.OK || s != "count 2\nf0(v0,0,0,0)\ntable 2\n1 0 -0 = 1\n1 1 -0 = 1\ntable 1\n0 0 -0 = 2\n" || c.Len() != 3 {
		t.Errorf("%q", s)
	}
	y := c
	y.Term.Args[0].Id = 5
	if c, _ := Make(Count, parse("v (not (adj 0 0))"), x); !term.Equal(c.Term, read("f0(v0,0,0,0)")) {
		t.Error("shared")
	}
}

func TestMakeErrors(t *testing.T) {
	good, bad := parse("v (one 0)"), kernel.Kernel{Root: kernel.Node{Op: 99}}
	wide, _ := run.Linear(sample.Path(16))
	closed := read("f0(v0,0,0,0)")
	for i, x := range []struct {
		kind int
		k    kernel.Kernel
		t    term.Term
		want api.Errno
	}{{3, bad, term.Term{Op: 99}, api.ErrKind}, {-1, bad, closed, api.ErrKind}, {0, bad, term.Term{Op: 9, Args: []term.Term{{P: 1}}}, api.ErrKind}, {0, parse("vvvvvvvvv (and)"), term.Term{P: 1}, api.ErrLimit}, {0, good, term.Term{P: 1}, api.ErrFormat}, {0, good, read("v0,0,0,0"), api.ErrPort}, {0, good, read("e0,1,0,0"), api.ErrPort}, {0, parse("v (ex v (size 1 0 64))"), wide, api.ErrLimit}} {
		if c, e := Make(x.kind, x.k, x.t); e != x.want || !Equal(c, Certificate{}) {
			t.Error(i, e)
		}
	}
	// Tables of 2^13 and 2^12 states at every node exceed the limit on entries.
	thirteen, _ := run.Linear(sample.Path(13))
	if c, e := Make(Satisfiable, parse("v (size 0 0 64)"), thirteen); e != api.ErrLimit || c.Tables != nil {
		t.Error(e)
	}
}

// P50.2.
func TestCheck(t *testing.T) {
	leaf := read("n")
	entry := func(l ...Entry) [][]Entry { return [][]Entry{l} }
	many := make([]Entry, MaxEntries+1)
	for i, x := range []struct {
		c    Certificate
		want api.Errno
	}{
		{Certificate{3, "x", term.Term{Op: 9}, nil}, api.ErrKind}, {Certificate{-1, "1", leaf, entry()}, api.ErrKind}, {Certificate{Count, "01", term.Term{Op: 9}, nil}, api.ErrFormat}, {Certificate{Count, "1", term.Term{Op: 9}, nil}, api.ErrKind}, {Certificate{Count, "1", leaf, nil}, api.ErrFormat}, {Certificate{Count, "1", leaf, [][]Entry{many}}, api.ErrLimit}, {Certificate{Count, "1", leaf, entry()}, api.OK},
		{Certificate{Count, "1", leaf, entry(Entry{"", "1"})}, api.ErrFormat}, {Certificate{Count, "1", leaf, entry(Entry{"a", "1"})}, api.ErrFormat}, {Certificate{Count, "1", leaf, entry(Entry{"0=", "1"})}, api.ErrFormat}, {Certificate{Count, "1", leaf, entry(Entry{"0", "true"})}, api.ErrFormat}, {Certificate{Count, "1", leaf, entry(Entry{"0", "1"}, Entry{"0", "1"})}, api.ErrFormat}, {Certificate{Count, "1", leaf, entry(Entry{"1", "1"}, Entry{"0", "1"})}, api.ErrFormat}, {Certificate{Count, "1", leaf, entry(Entry{"0 -.!:()[]{}", "1"}, Entry{"1", "0"})}, api.OK}, {Certificate{Satisfiable, "true", leaf, entry(Entry{"0", "false"})}, api.OK}, {Certificate{MinCost, "none", leaf, entry(Entry{"0", "-7"})}, api.OK}, {Certificate{MinCost, "true", leaf, entry()}, api.ErrFormat},
	} {
		s, e := x.c.Format()
		if x.c.Check() != x.want || e != x.want || e != api.OK && s != "" {
			t.Error(i, x.c.Check())
		}
	}
	a := Certificate{Count, "1", leaf, entry(Entry{"0", "1"})}
	for i, b := range []Certificate{{Satisfiable, "1", leaf, a.Tables}, {Count, "2", leaf, a.Tables}, {Count, "1", read("m(n)"), a.Tables}, {Count, "1", leaf, entry(Entry{"0", "2"})}, {Count, "1", leaf, nil}} {
		if Equal(a, b) {
			t.Error(i)
		}
	}
}

// P50.3.
func TestParse(t *testing.T) {
	good := "count 2\nf0(v0,0,0,0)\ntable 2\n1 0 -0 = 1\n1 1 -0 = 1\ntable 1\n0 0 -0 = 2\n"
	if c, n, e := Parse(good); e != api.OK || n != 0 || c.Len() != 3 {
		t.Error(n, e)
	}
	lines := strings.SplitAfter(good, "\n")
	with := func(i int, line string) string {
		l := append([]string{}, lines...)
		l[i] = line
		return strings.Join(l, "")
	}
	for s, want := range map[string]struct {
		n int
		e api.Errno
	}{
		"": {1, api.ErrShort}, "count 2": {1, api.ErrShort}, "counts": {1, api.ErrShort}, "\n": {1, api.ErrFormat}, "count 02\n": {1, api.ErrFormat}, "count  2\n": {1, api.ErrFormat}, "count true\n": {1, api.ErrFormat}, "Count 2\n": {1, api.ErrFormat}, "count 2 \n": {1, api.ErrFormat}, "cost 2\n": {2, api.ErrShort}, "satisfiable true\n": {2, api.ErrShort}, "cost -0\n": {1, api.ErrFormat},
		with(1, "f0(v0,0,0,0\n"): {2, api.ErrFormat}, with(1, "f1(v0,0,0,0)\n"): {2, api.ErrPort}, with(1, ""): {2, api.ErrFormat}, with(1, "v0,0,0,0\n"): {6, api.ErrFormat},
		with(2, "table 02\n"): {3, api.ErrFormat}, with(2, "table 65537\n"): {3, api.ErrFormat}, with(2, "table\n"): {3, api.ErrFormat}, with(2, "table 1\n"): {5, api.ErrFormat}, with(2, "table 3\n"): {6, api.ErrFormat}, with(2, "table  2\n"): {3, api.ErrFormat}, with(2, "tables 2\n"): {3, api.ErrFormat},
		with(3, "1 0 -0 =1\n"): {4, api.ErrFormat}, with(3, "1 0 -0 = 01\n"): {4, api.ErrFormat}, with(3, " = 1\n"): {4, api.ErrFormat}, with(3, "x = 1\n"): {4, api.ErrFormat}, with(3, "1 0 -0 = 1 \n"): {4, api.ErrFormat}, with(4, "1 0 -0 = 1\n"): {5, api.ErrFormat},
		strings.TrimSuffix(good, "\n"): {7, api.ErrShort}, good + "x": {8, api.ErrShort}, good + "\n": {8, api.ErrFormat}, good + "table 0\nx\n": {8, api.ErrFormat}, strings.Join(lines[:5], ""): {6, api.ErrShort}, strings.Repeat("\n", 1<<24+1): {0, api.ErrLong},
	} {
		if c, n, e := Parse(s); n != want.n || e != want.e || !Equal(c, Certificate{}) {
			t.Errorf("%.60q %d %d", s, n, e)
		}
	}
	var b strings.Builder
	b.WriteString("satisfiable true\nm(n)\ntable 65536\n")
	for i := range 65536 {
		b.WriteString(strconv.Itoa(100000+i) + " = true\n")
	}
	b.WriteString("table 1\n0 = true\n")
	if c, n, e := Parse(b.String()); e != api.ErrLimit || n != 0 || c.Tables != nil {
		t.Error(n, e)
	}
}

// P50.4.
func TestValues(t *testing.T) {
	nat := bignat.FromUint64(12)
	for i, x := range []struct {
		kind int
		v    Value
		s    string
		want api.Errno
	}{
		{3, Value{}, "", api.ErrKind}, {-1, Value{}, "", api.ErrKind}, {Satisfiable, Value{Is: true}, "true", api.OK}, {Satisfiable, Value{}, "false", api.OK}, {Satisfiable, Value{Cost: 1}, "", api.ErrFormat}, {Satisfiable, Value{Count: nat}, "", api.ErrFormat}, {Count, Value{Count: nat}, "12", api.OK}, {Count, Value{}, "0", api.OK}, {Count, Value{Is: true}, "", api.ErrFormat}, {Count, Value{Cost: 1}, "", api.ErrFormat}, {MinCost, Value{}, "none", api.OK}, {MinCost, Value{Cost: 1}, "", api.ErrFormat}, {MinCost, Value{Is: true, Cost: -5}, "-5", api.OK}, {MinCost, Value{Is: true, Cost: 1 << 40}, "1099511627776", api.OK}, {MinCost, Value{Is: true, Cost: -1<<40 - 1}, "", api.ErrFormat}, {MinCost, Value{Is: true, Count: nat}, "", api.ErrFormat},
	} {
		s, e := FormatValue(x.kind, x.v)
		if s != x.s || e != x.want {
			t.Error(i, s, e)
		}
		if v, e := ParseValue(x.kind, s); x.want == api.OK && (e != api.OK || !reflect.DeepEqual(v, x.v)) {
			t.Error(i, v, e)
		}
	}
	for s, kind := range map[string]int{"True": 0, "": 0, "1": 0, "none": 1, "-1": 1, "00": 1, "-0": 2, "+1": 2, "1099511627777": 2, "-1099511627777": 2, "01": 2, "None": 2, "false": 2} {
		if v, e := ParseValue(kind, s); e != api.ErrFormat || !reflect.DeepEqual(v, Value{}) {
			t.Error(s, e)
		}
	}
	if _, e := ParseValue(3, "x"); e != api.ErrKind {
		t.Error(e)
	}
}
