package checker

import (
	"math/rand"
	"strings"
	"testing"

	"palmette/api"
	"palmette/certificate"
	"palmette/graph"
	"palmette/kernel"
	"palmette/library"
	"palmette/nicedecomp"
	"palmette/run"
	"palmette/sample"
	"palmette/term"
)

func parseKernel(s string) kernel.Kernel {
	k, e := kernel.Parse(s)
	if e != api.OK {
		panic(s)
	}
	return k
}

func read(s string) term.Term {
	t, e := term.Parse(s)
	if e != api.OK {
		panic(s)
	}
	return t
}

// P51.3: certificates are accepted along any term, and every other byte is refused.
func TestCertificates(t *testing.T) {
	r := rand.New(rand.NewSource(1))
	for range 120 {
		k, e := kernel.FromQuery(sample.Query(r.Intn, r.Intn(3), 1+r.Intn(8)))
		n := r.Intn(4)
		g := sample.Graph(r.Intn, n)
		if e != api.OK {
			continue
		}
		linear, _ := run.Linear(g)
		nice, _ := nicedecomp.FromOrder(g, r.Perm(n))
		moved := term.Term{Op: term.Rename, Args: []term.Term{nice}}
		if n > 0 {
			p := nice
			for p.Op == term.Forget {
				p = p.Args[0]
			}
		}
		for kind := range certificate.Kinds {
			answers := map[string]bool{}
			for _, x := range []term.Term{linear, nice, moved} {
				c, e := certificate.Make(kind, k, x)
				if e == api.ErrLimit {
					continue
				}
				text, _ := c.Format()
				a, f := Verify(text, g, k)
				d, h := Diagnose(text, g, k)
				if e != api.OK || f != api.OK || a != (Answer{kind, c.Answer}) || h != api.OK || d != (Defect{NoDefect, -1}) {
					t.Fatal(text, e, f, d)
				}
				answers[a.Text] = true
				for range 25 {
					b := []byte(text)
					i := r.Intn(len(b))
					b[i] = "0123456789 .-!:()[]{}\n=,tv"[r.Intn(26)]
					if string(b) == text {
						continue
					}
					if a, e := Verify(string(b), g, k); x.Op != term.Rename && e == api.OK || a != (Answer{}) && e != api.OK {
						t.Fatal(text, string(b))
					}
				}
				checkTables(t, r, c, g, k)
			}
			if len(answers) > 1 {
				t.Fatal(answers)
			}
		}
	}
}

// checkTables changes values, states and numbers of entries of a table.
func checkTables(t *testing.T, r *rand.Rand, c certificate.Certificate, g *graph.Graph, k kernel.Kernel) {
	i := r.Intn(len(c.Tables))
	old := c.Tables[i]
	defer func() { c.Tables[i] = old }()
	try := func(l []certificate.Entry) {
		c.Tables[i] = l
		text, e := c.Format()
		if e != api.OK {
			return
		}
		if d, f := Diagnose(text, g, k); f != api.OK || d != (Defect{WrongTable, i}) {
			t.Fatal(text, d, f, i)
		}
		if a, e := Verify(text, g, k); e != api.ErrCertificate || a != (Answer{}) {
			t.Fatal(e)
		}
	}
	if len(old) > 0 {
		try(old[1:])
		l := append([]certificate.Entry{}, old...)
		at := r.Intn(len(l))
		l[at].Value = map[int]string{0: "false", 1: l[at].Value + "7", 2: "none"}[c.Kind]
		try(l)
		l[at] = old[at]
		l[at].State += "0"
		try(l)
	}
	try(append(append([]certificate.Entry{}, old...), certificate.Entry{State: "}", Value: map[int]string{0: "true", 1: "1", 2: "0"}[c.Kind]}))
}

func TestLibrary(t *testing.T) {
	r := rand.New(rand.NewSource(2))
	for _, name := range library.Names() {
		q, _ := library.Query(name)
		k, _ := kernel.FromQuery(q)
		g := sample.Thin(r.Intn, 4)
		x, _ := nicedecomp.FromOrder(g, []int{0, 1, 2, 3})
		c, e := certificate.Make(Count, k, x)
		if e == api.ErrLimit {
			continue
		}
		text, _ := c.Format()
		if a, f := Verify(text, g, k); e != api.OK || f != api.OK || a.Text != c.Answer {
			t.Error(name, e, f)
		}
	}
}

// P51.1: kinds of defects, and their order.
func TestDefects(t *testing.T) {
	k := parseKernel("v (not (adj 0 0))")
	g, _ := graph.Build([]graph.Vertex{{Id: 0}}, nil)
	c, _ := certificate.Make(Count, k, read("f0(v0,0,0,0)"))
	good, _ := c.Format()
	if a, e := Verify(good, g, k); a != (Answer{Count, "2"}) || e != api.OK {
		t.Error(a, e)
	}
	other := sample.Path(2)
	for text, want := range map[string]struct {
		g *graph.Graph
		d Defect
	}{
		strings.Replace(good, "count 2", "count 3", 1):                                   {g, Defect{WrongAnswer, -1}},
		strings.Replace(good, "= 2", "= 3", 1):                                           {g, Defect{WrongTable, 1}},
		strings.Replace(strings.Replace(good, "= 2", "= 3", 1), "count 2", "count 3", 1): {g, Defect{WrongTable, 1}},
		strings.Replace(strings.Replace(good, "0 = 1", "0 = 9", 1), "= 2", "= 3", 1):     {g, Defect{WrongTable, 0}},
		good:                           {other, Defect{WrongGraph, -1}},
		"count 0\nv0,0,0,0\ntable 0\n": {other, Defect{OpenTerm, -1}},
		"count 0\nj(f0(v0,0,0,0))(f0(v0,0,0,0))\ntable 0\ntable 0\ntable 0\ntable 0\ntable 0\n": {g, Defect{WrongGraph, -1}},
		"satisfiable true\nn\ntable 1\n0 0 -0 = true\n":                                         {graph.New(), Defect{NoDefect, -1}},
	} {
		if d, e := Diagnose(text, want.g, k); d != want.d || e != api.OK {
			t.Errorf("%q %v %d", text, d, e)
		}
		if a, e := Verify(text, want.g, k); want.d.Kind != NoDefect && (a != (Answer{}) || e != api.ErrCertificate) {
			t.Errorf("%q %v %d", text, a, e)
		}
	}
	bad := kernel.Kernel{Root: kernel.Node{Op: 99}}
	for i, x := range []struct {
		text string
		g    *graph.Graph
		k    kernel.Kernel
		want api.Errno
	}{{"", nil, bad, api.ErrArgument}, {"", g, bad, api.ErrKind}, {"", g, parseKernel("vvvvvvvvv (and)"), api.ErrLimit}, {"", g, k, api.ErrFormat}, {good + "x", g, k, api.ErrFormat}, {good + "\n", g, k, api.ErrFormat}, {strings.TrimSuffix(good, "\n"), g, k, api.ErrFormat}, {strings.Repeat("x", 1<<24+1), g, k, api.ErrFormat}, {strings.Replace(good, "count 2", "count 02", 1), g, k, api.ErrFormat}, {strings.Replace(good, "table 2", "table 02", 1), g, k, api.ErrFormat}, {strings.Replace(good, "f0(", "f1(", 1), g, k, api.ErrFormat}} {
		d, e := Diagnose(x.text, x.g, x.k)
		a, f := Verify(x.text, x.g, x.k)
		if d != (Defect{}) || e != x.want || a != (Answer{}) || f != x.want {
			t.Error(i, e, f)
		}
	}
}

// P51.1: no table is correct if it exceeds a limit.
func TestLimit(t *testing.T) {
	g := sample.Path(15)
	x, _ := run.Linear(g)
	k := parseKernel("- (ex v (size 0 0 64))")
	var b strings.Builder
	b.WriteString("satisfiable true\n")
	text, _ := term.Format(x)
	b.WriteString(text + "\n")
	for range term.Size(x) {
		b.WriteString("table 0\n")
	}
	if d, e := Diagnose(b.String(), g, k); d != (Defect{WrongTable, 0}) || e != api.OK {
		t.Error(d, e)
	}
	part, _ := run.Linear(sample.Path(14))
	for part.Op == term.Forget {
		part = part.Args[0]
	}
	c := newVerifier(k, arithmeticOf(Satisfiable), nil)
	states := map[string]value{}
	var evaluate func(t term.Term) table
	evaluate = func(t term.Term) table {
		var args []table
		for _, x := range t.Args {
			args = append(args, evaluate(x))
		}
		return c.rules[t.Op](t, args).sums
	}
	states = evaluate(part)
	if len(states) != 1 || c.f.exceeded {
		t.Fatal(len(states))
	}
	vertex := c.element(term.Term{Op: term.Vertex, P: 14}, nil)
	if b := c.join(term.Term{}, []table{states, vertex.sums}); b.ok || !c.f.exceeded {
		t.Error("limit")
	}
}
