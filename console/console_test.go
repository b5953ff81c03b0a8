package console

import (
	"math/rand"
	"slices"
	"strconv"
	"strings"
	"testing"

	"palmette/bitset"
	"palmette/formula"
	"palmette/graph"
	"palmette/graphio"
	"palmette/library"
	"palmette/printer"
	"palmette/sample"
	"palmette/semantics"
)

// expect runs lines with their expected outputs: a line that starts with "> " is output.
func expect(t *testing.T, script string) {
	t.Helper()
	c := New()
	var line string
	var want []string
	check := func() {
		if got := c.Line(line); !slices.Equal(got, want) {
			t.Errorf("%s\ngot  %q\nwant %q", line, got, want)
		}
	}
	for i, s := range strings.Split(strings.TrimSpace(script), "\n") {
		if out, is := strings.CutPrefix(s, "> "); is {
			want = append(want, out)
			continue
		}
		if i > 0 {
			check()
		}
		line, want = s, nil
	}
	check()
}

func TestExample(t *testing.T) {
	got := Run("create g\nedit g add 0 0 5 ; add 1 0 3 ; join 0 1 0 0\ncount g find set X: not X adj X\nsolve g find set X: not X adj X")
	if !slices.Equal(got, []string{"ok", "ok", "3", "cost 0", "{}"}) {
		t.Error(got)
	}
}

func TestCommands(t *testing.T) {
	expect(t, `
create g
> ok
create g
> error 7
create h
> ok
graphs
> g
> h
edit g add 0 1 5 ; add 1 0 3 ; join 1 0 2 -4
> ok
show g
> vertex 0 1 5
> vertex 1 0 3
> edge 0 1 2 -4
show h
version g
> 1
register g n count find set X: not X adj X
> answer 3
register g m min find edge e: true
> answer -4
register g s exists some vertex x: x is 3
> answer false
register g a max find vertex v: true
> answer 5
queries g
> n count 3
> m min -4
> s exists false
> a max 5
edit g part 0 1 ; mark 1 8
> event n 3 4
> event m -4 none
> event s false true
> ok
edit g mark 1 8
> ok
revert g 1
> event n 4 3
> event m none -4
> event s true false
> ok
version g
> 4
unregister g m
> ok
unregister g m
> error 9
let f(vertex v): some vertex u: u adj v;
> ok
let g(vertex v): f(v);
> error 6
let p(): true; let q(): p();
> ok
let f(): true;
> error 7
let r(): true; let p(): true;
> error 7
macros
> let f ( vertex v ) : some vertex u : u adj v ;
> let p ( ) : true ;
> let q ( ) : p ( ) ;
expand find vertex x: f(x) and q()
> find vertex x : ( some vertex z1 : z1 adj x ) and true
library triangle
> some vertex a : some vertex b : some vertex c : a adj b and b adj c and a adj c
library Triangle
> error 6
count g find vertex x: f(x)
> 2
count h find vertex x: f(x)
> 0
solve g find vertex x: f(x)
> cost 3
> {1}
solve h find vertex x: f(x)
> infeasible
solve g true
> cost 0
> -
list g 5 find set X: not X adj X
> {}
> {0}
> {1}
list g 2 find set X: not X adj X
> {}
> {0}
list g 0 find set X: not X adj X
list h 3 find vertex v: true
prove h count find vertex v: true
> count 0
> n
> table 1
> 0 0 (0 .) = 1
verify g count find set X: not X adj X
> verified 3
verify g satisfiable find set X: not X adj X
> verified true
verify g cost find set X: X = X
> verified 0
width g
> lower 1 upper 1 exact 1
width h
> lower -1 upper -1 exact -1
drop h
> ok
drop h
> error 9
graphs
> g
compact
> ok
version g
> 1
log
> entries 5 bytes 225
crash 100
> recovered 75
> error 19
queries g
macros
> let f ( vertex v ) : some vertex u : u adj v ;
> let p ( ) : true ;
> let q ( ) : p ( ) ;
crash 999999999
> recovered 75
crash 0
> recovered 0
graphs
`)
}

// P55.1: malformed lines, and the order of errors.
func TestErrors(t *testing.T) {
	expect(t, `
create g
> ok
# a comment
unknown
> error 3
 create x
> error 3
create
> error 3
create 
> error 3
create a b
> error 3
create  a
> error 3
create a 
> error 3
graphs 
> error 3
graphs x
> error 3
create `+strings.Repeat("n", 33)+`
> error 6
edit g
> error 3
edit g 
> error 3
edit g  add 0 0 0
> error 3
edit x add 0 0
> error 3
edit x add 0 0 0 ;add 1 0 0
> error 3
edit x drop 1024
> error 2
edit x drop 0
> error 9
edit g add 0 0 0 ; add 0 0 0
> error 7
show x
> error 9
version x
> error 9
queries x
> error 9
width x
> error 9
revert g 01
> error 3
revert g -1
> error 3
revert g 1000000000
> error 3
revert g 999999999
> error 9
revert x 0
> error 9
register x q most true
> error 3
register x q max true true
> error 3
register x q max some vertex x: f(x)
> error 6
register x q max x is 1
> error 21
register x q max true
> error 9
register g q max true
> answer 0
register g q max true
> error 7
register g q max
> error 3
count x true true
> error 9
count g true true
> error 3
count g x is 1
> error 21
count g  true
> 1
list g 01 true
> error 3
list x 5 true
> error 9
prove x most true true
> error 3
prove x cost true true
> error 9
prove g cost true true
> error 3
verify g costs true
> error 3
let
> error 3
let x
> error 3
let f(): true
> error 3
expand
> error 3
expand f()
> error 6
library
> error 3
crash x
> error 3
crash 0000
> error 3
log 1
> error 3
verify g count find set a, set b, set c, set d, set e, set f, set h, set i: true
> verified 1
`)
	c := New()
	for _, s := range []string{"create g\n", "\n", "# x\n"} {
		if got := c.Line(s); !slices.Equal(got, []string{"error 3"}) {
			t.Error(s, got)
		}
	}
	if len(c.Line("")) != 0 || len(c.Line("graphs")) != 0 || (*Console)(nil).Line("graphs") != nil || len(Run("")) != 0 {
		t.Error("empty")
	}
}

// P55.3: the commands agree with exhaustive search and with each other, and reading commands change nothing.
func TestAgreement(t *testing.T) {
	r := rand.New(rand.NewSource(1))
	for range 40 {
		g := sample.Thin(r.Intn, r.Intn(5))
		q := sample.Query(r.Intn, r.Intn(3), 1+r.Intn(7))
		all, e := semantics.Solutions(g, q, 1<<21)
		text, f := printer.Print(q)
		if e != 0 || f != 0 {
			continue
		}
		c := New()
		c.Line("create g")
		edits, _ := graphio.FormatEdits(graphio.Diff(nil, g))
		if edits != "" {
			if got := c.Line("edit g " + strings.ReplaceAll(strings.TrimSuffix(edits, "\n"), "\n", " ; ")); !slices.Equal(got, []string{"ok"}) {
				t.Fatal(got)
			}
		}
		size := c.Line("log")
		n := strconv.Itoa(len(all))
		if got := c.Line("count g " + text); !slices.Equal(got, []string{n}) {
			t.Fatal(text, got, n)
		}
		if got := c.Line("verify g count " + text); !slices.Equal(got, []string{"verified " + n}) {
			t.Fatal(text, got)
		}
		var sets []string
		best, cost := "infeasible", 0
		for _, rows := range all {
			sets = append(sets, graphio.FormatSets(rows))
			if w := weight(g, q, rows); best == "infeasible" || w < cost {
				best, cost = graphio.FormatSets(rows), w
			}
		}
		if got := c.Line("list g 999999999 " + text); !slices.Equal(got, sets) {
			t.Fatal(text, got, sets)
		}
		got := c.Line("solve g " + text)
		proven := c.Line("verify g cost " + text)
		if len(all) == 0 && (!slices.Equal(got, []string{"infeasible"}) || proven[0] != "verified none") || len(all) > 0 && (!slices.Equal(got, []string{"cost " + strconv.Itoa(cost), best}) || proven[0] != "verified "+strconv.Itoa(cost)) {
			t.Fatal(text, got, best, proven)
		}
		c.Line("prove g satisfiable " + text)
		c.Line("expand " + text)
		if !slices.Equal(c.Line("log"), size) {
			t.Fatal("log")
		}
		if got := c.Line("register g q count " + text); !slices.Equal(got, []string{"answer " + n}) {
			t.Fatal(got)
		}
	}
}

func weight(g *graph.Graph, q formula.Query, rows []bitset.Set) int {
	w, _ := semantics.Weight(g, q, rows)
	return w
}

func TestLibraryQueries(t *testing.T) {
	c := New()
	c.Line("create g")
	c.Line("edit g add 0 1 0 ; add 1 0 0 ; add 2 2 0 ; add 3 0 0 ; join 0 1 0 1 ; join 1 2 0 1 ; join 2 3 0 1 ; join 0 3 0 1")
	for name, want := range map[string]string{"bipartite": "1", "cycle": "1", "hamiltoniancycle": "1", "perfectmatching": "2", "spanningtree": "4", "triangle": "0", "twocoloring": "2", "threecoloring": "18", "reachable": "1", "forest": "0", "vertexcover": "7", "matching": "7"} {
		text, _ := library.Text(name)
		if got := c.Line("count g " + text); !slices.Equal(got, []string{want}) {
			t.Error(name, got, want)
		}
	}
}
