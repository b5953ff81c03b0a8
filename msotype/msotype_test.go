package msotype

import (
	"math/rand"
	"slices"
	"sort"
	"strconv"
	"strings"
	"testing"

	"palmette/api"
	"palmette/kernel"
	"palmette/sample"
)

func parse(t *testing.T, s string) kernel.Kernel {
	k, e := kernel.Parse(s)
	if e != api.OK {
		t.Fatal(s, e)
	}
	return k
}

// partial is a partial graph, with vertices that may be bare.
type partial struct {
	named  []bool
	labels []uint8
	ports  map[int]int
	edges  [][3]int // ends and label
}

// slow computes the text of a node as the document defines it: over all choices for bound tracks.
// Bit i of a row stands for vertex i, or for edge i.
func (g *partial) slow(n kernel.Node, sorts []int, rows []uint) string {
	switch n.Op {
	case kernel.Not:
		switch s := g.slow(n.L[0], sorts, rows); s {
		case "!":
			return "."
		case ".":
			return "!"
		default:
			return "-" + s
		}
	case kernel.And, kernel.Or:
		var l []string
		for _, x := range n.L {
			l = append(l, g.slow(x, sorts, rows))
		}
		if n.Op == kernel.And {
			return listText(l, "!", ".", "()")
		}
		return listText(l, ".", "!", "[]")
	case kernel.Exists:
		return g.slowSet(n, sorts, rows)
	}
	m := monoidOf(n)
	v := m.Identity()
	for _, x := range g.truths(n, sorts, rows) {
		v = m.Add(v, m.Value(x))
	}
	if m.Dead(v) {
		return "!"
	}
	if m.Universal(v) {
		return "."
	}
	return strconv.Itoa(v)
}

func listText(l []string, deciding, other, brackets string) string {
	if slices.Contains(l, deciding) {
		return deciding
	}
	if !slices.ContainsFunc(l, func(s string) bool { return s != other }) {
		return other
	}
	return brackets[:1] + strings.Join(l, " ") + brackets[1:]
}

func (g *partial) slowSet(n kernel.Node, sorts []int, rows []uint) string {
	size := len(g.named)
	if n.Sort == kernel.Edges {
		size = len(g.edges)
	}
	type entry struct {
		mask int
		text string
	}
	var l []entry
	for row := range uint(1) << size {
		s := g.slow(n.L[0], append(slices.Clip(sorts), n.Sort), append(slices.Clip(rows), row))
		if s != "!" {
			l = append(l, entry{g.mask(n.Sort, row), s})
		}
	}
	if len(l) == 0 {
		return "!"
	}
	sort.Slice(l, func(i, k int) bool { return l[i].mask < l[k].mask || l[i].mask == l[k].mask && l[i].text < l[k].text })
	var words []string
	for _, x := range slices.Compact(l) {
		if x.text == "." {
			return "."
		}
		words = append(words, strconv.Itoa(x.mask)+":"+x.text)
	}
	return "{" + strings.Join(words, " ") + "}"
}

func (g *partial) mask(sort int, row uint) int {
	m := 0
	for p, v := range g.ports {
		if sort == kernel.Vertices && row>>v&1 == 1 {
			m |= 1 << p
		}
	}
	return m
}

func (g *partial) truths(n kernel.Node, sorts []int, rows []uint) []bool {
	var l []bool
	has := func(track, i int) bool { return rows[track]>>i&1 == 1 }
	one := func(i int, label int) {
		switch n.Op {
		case kernel.Subset:
			l = append(l, !has(n.A, i) || has(n.B, i))
		case kernel.HasLabel:
			l = append(l, !has(n.A, i) || label>>n.N&1 == 1)
		default:
			l = append(l, has(n.A, i))
		}
	}
	for i, x := range g.edges {
		switch {
		case n.Op == kernel.Adjacent:
			l = append(l, has(n.A, x[0]) && has(n.B, x[1]) || has(n.A, x[1]) && has(n.B, x[0]))
		case n.Op == kernel.Incident:
			l = append(l, has(n.B, i) && (has(n.A, x[0]) || has(n.A, x[1])))
		case sorts[n.A] == kernel.Edges:
			one(i, x[2])
		}
	}
	for i, named := range g.named {
		if named && n.Op != kernel.Adjacent && n.Op != kernel.Incident && sorts[n.A] == kernel.Vertices {
			one(i, int(g.labels[i]))
		}
	}
	return l
}

// text returns the text of the state under an assignment.
func (g *partial) text(k kernel.Kernel, rows []uint) string {
	ports := 0
	for p := range g.ports {
		ports |= 1 << p
	}
	words := []string{strconv.Itoa(ports)}
	for i, sort := range k.Sorts {
		words = append(words, strconv.Itoa(g.mask(sort, rows[i])))
	}
	return strings.Join(append(words, g.slow(k.Root, k.Sorts, rows)), " ")
}

// build applies random operations to the whole, which consists of a partial graph and its state.
func build(t *testing.T, r *rand.Rand, s *States, k kernel.Kernel, rows []uint) (*partial, int) {
	g := &partial{ports: map[int]int{}}
	state := s.Empty()
	in := func(v int, sort int) uint16 {
		var m uint16
		for i, row := range rows {
			if k.Sorts[i] == sort && row>>v&1 == 1 {
				m |= 1 << i
			}
		}
		return m
	}
	join := func(part int, e api.Errno) {
		next, f := s.Join(state, part)
		other, h := s.Join(part, state)
		if e != api.OK || f != api.OK || h != api.OK || next != other {
			t.Fatal(e, f, h)
		}
		state = next
	}
	at := func(p int) int {
		if _, is := g.ports[p]; !is {
			g.ports[p] = len(g.named)
			g.named, g.labels = append(g.named, false), append(g.labels, 0)
		}
		return g.ports[p]
	}
	for range 5 {
		p, q, label := r.Intn(4), r.Intn(4), uint8(r.Intn(4))
		v, is := g.ports[p]
		switch op := r.Intn(5); {
		case op <= 1 && len(g.named) < 3 && (!is || !g.named[v]):
			v = at(p)
			g.named[v], g.labels[v] = true, label
			join(s.Vertex(p, label, in(v, kernel.Vertices)|0xff00))
		case op == 2 && p != q && len(g.named) < 3 && len(g.edges) < 2:
			u, v := at(p), at(q)
			g.edges = append(g.edges, [3]int{u, v, int(label)})
			join(s.Edge(p, q, label, in(u, kernel.Vertices), in(v, kernel.Vertices), in(len(g.edges)-1, kernel.Edges)))
		case op == 3 && is && g.named[v]:
			delete(g.ports, p)
			next, e := s.Forget(state, p)
			if e != api.OK {
				t.Fatal(e)
			}
			state = next
		case op == 4:
			to := r.Perm(6)[:len(g.ports)]
			moved := map[int]int{}
			i := 0
			for p := range 16 {
				if v, is := g.ports[p]; is {
					moved[to[i]] = v
					i++
				}
			}
			g.ports = moved
			next, e := s.Rename(state, to)
			if e != api.OK {
				t.Fatal(e)
			}
			state = next
		}
	}
	return g, state
}

// P28.1 to P28.4: texts of states are those of the definition.
func TestTexts(t *testing.T) {
	r := rand.New(rand.NewSource(1))
	for range 400 {
		k, e := kernel.FromQuery(sample.Query(r.Intn, r.Intn(3), 1+r.Intn(8)))
		if e != api.OK || kernel.TrackCount(k) > 4 {
			continue
		}
		s, e := New(k)
		if e != api.OK {
			t.Fatal(e)
		}
		for range 4 {
			rows := make([]uint, len(k.Sorts))
			for i := range rows {
				rows[i] = uint(r.Intn(8))
			}
			g, state := build(t, r, s, k, rows)
			text, _ := kernel.Format(k)
			if got, want := s.Text(state), g.text(k, rows); got != want {
				t.Fatal(text, g, rows, got, want)
			}
			node := g.slow(k.Root, k.Sorts, rows)
			if s.Dead(state) != (node == "!") || s.Universal(state) != (node == ".") || s.Dead(state) && s.Accepts(state) || s.Universal(state) && !s.Accepts(state) {
				t.Fatal(node)
			}
			for track, sort := range k.Sorts {
				if int(s.Mask(state, track)) != g.mask(sort, rows[track]) {
					t.Fatal(track)
				}
			}
		}
		seen := map[string]bool{}
		for a := range s.Len() {
			if text := s.Text(a); seen[text] || text == "" {
				t.Fatal(text)
			} else {
				seen[text] = true
			}
		}
	}
}

func TestExample(t *testing.T) {
	s, _ := New(parse(t, "- (ex v (and (one 0) (is 0 3)))"))
	a, e := s.Vertex(2, 8, 0)
	b, f := s.Vertex(2, 0, 0)
	if s.Text(s.Empty()) != "0 {0:(0 1)}" || s.Text(a) != "4 {0:(0 1) 4:(1 1)}" || s.Text(b) != "4 {0:(0 1)}" || e != api.OK || f != api.OK || s.Accepts(b) || !s.Accepts(a) || s.Ports(a) != 4 {
		t.Error(s.Text(a), s.Text(b))
	}
	if a != 1 || b != 2 || s.Len() != 3 || s.Accepts(0) {
		t.Error(a, b)
	}
	if k := s.Kernel(); !kernel.Equal(k, parse(t, "- (ex v (and (one 0) (is 0 3)))")) {
		t.Error(k)
	}
}

// P28.2: errors.
func TestErrors(t *testing.T) {
	s, _ := New(parse(t, "ve (on 0 1)"))
	in, _ := s.Vertex(1, 0, 1)
	out, _ := s.Vertex(1, 0, 2)
	edge, _ := s.Edge(1, 2, 0, 0, 0, 3)
	if s.Mask(in, 0) != 2 || s.Mask(out, 0) != 0 || s.Mask(in, 1) != 0 || s.Mask(in, 2) != 0 || s.Mask(in, -1) != 0 || s.Mask(99, 0) != 0 {
		t.Error("masks")
	}
	n := s.Len()
	for i, f := range []func() (int, api.Errno){
		func() (int, api.Errno) { return s.Vertex(16, 0, 0) }, func() (int, api.Errno) { return s.Vertex(-1, 0, 0) }, func() (int, api.Errno) { return s.Edge(16, 16, 0, 0, 0, 0) }, func() (int, api.Errno) { return s.Edge(0, -1, 0, 0, 0, 0) },
		func() (int, api.Errno) { return s.Join(in, edge) }, func() (int, api.Errno) { return s.Forget(in, 0) }, func() (int, api.Errno) { return s.Forget(in, 16) }, func() (int, api.Errno) { return s.Forget(in, -1) },
		func() (int, api.Errno) { return s.Rename(in, nil) }, func() (int, api.Errno) { return s.Rename(in, []int{16}) }, func() (int, api.Errno) { return s.Rename(edge, []int{3, 3}) },
		func() (int, api.Errno) { return s.Edge(3, 3, 0, 0, 0, 0) },
		func() (int, api.Errno) { return s.Join(in, 999) }, func() (int, api.Errno) { return s.Join(-1, in) }, func() (int, api.Errno) { return s.Forget(999, 99) }, func() (int, api.Errno) { return s.Rename(999, []int{99}) },
	} {
		want := api.ErrPort
		if i == 11 {
			want = api.ErrLoop
		} else if i > 11 {
			want = api.ErrArgument
		}
		if id, e := f(); id != 0 || e != want {
			t.Error(i, e)
		}
	}
	if s.Len() != n || s.Text(999) != "" || s.Accepts(999) || s.Dead(-1) || s.Universal(999) || s.Ports(-1) != 0 {
		t.Error("unknown")
	}
	if s, e := New(kernel.Kernel{Root: kernel.Node{Op: 99}}); s != nil || e != api.ErrKind {
		t.Error(e)
	}
	var none *States
	for i, f := range []func() (int, api.Errno){func() (int, api.Errno) { return none.Vertex(99, 0, 0) }, func() (int, api.Errno) { return none.Edge(1, 1, 0, 0, 0, 0) }, func() (int, api.Errno) { return none.Join(0, 0) }, func() (int, api.Errno) { return none.Forget(0, 0) }, func() (int, api.Errno) { return none.Rename(0, nil) }} {
		if id, e := f(); id != 0 || e != api.ErrArgument {
			t.Error(i, e)
		}
	}
	if none.Empty() != 0 || none.Len() != 0 || none.Text(0) != "" || none.Accepts(0) || none.Dead(0) || none.Universal(0) || none.Ports(0) != 0 || none.Mask(0, 0) != 0 || !kernel.Equal(none.Kernel(), kernel.Kernel{}) {
		t.Error("nil")
	}
}

// P28.2: a set with more members than the limit, also where it collapses.
func TestLimit(t *testing.T) {
	for _, text := range []string{"- (ex v (size 0 0 2))", "- (or (and) (ex v (size 0 0 2)))"} {
		s, _ := New(parse(t, text))
		state := s.Empty()
		for p := range 14 {
			v, _ := s.Vertex(p, 0, 0)
			next, e := s.Join(state, v)
			if e != api.OK {
				t.Fatal(p, e)
			}
			state = next
		}
		v, _ := s.Vertex(14, 0, 0)
		want := api.ErrLimit
		if text[3] == 'o' {
			want = api.OK // the Or is Universal in each part, so nothing is built
		}
		if _, e := s.Join(state, v); e != want {
			t.Error(text, e)
		}
	}
}
