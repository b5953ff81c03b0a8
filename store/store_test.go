package store

import (
	"math/rand"
	"slices"
	"strconv"
	"strings"
	"testing"

	"palmette/api"
	"palmette/formula"
	"palmette/graph"
	"palmette/standing"
	"palmette/wal"
)

func add(id int) graph.Edit { return graph.Edit{Op: graph.AddVertex, U: id} }

// randomStep performs one random operation and reports whether it changed the store.
func randomStep(r *rand.Rand, s *Store) bool {
	name := []string{"g", "h", "k"}[r.Intn(3)]
	query := "q" + strconv.Itoa(r.Intn(3))
	n := s.Len()
	switch r.Intn(8) {
	case 0:
		s.Create(name)
	case 1:
		if r.Intn(4) == 0 {
			s.Drop(name)
		}
	case 2:
		s.Register(name, query, []string{"find set X: not X adj X", "some vertex x: x is 0", "find edge e:\ne is 1"}[r.Intn(3)], r.Intn(4))
	case 3:
		s.Unregister(name, query)
	case 4:
		s.Revert(name, r.Intn(s.Version(name)+2))
	default:
		var es []graph.Edit
		for range r.Intn(3) {
			es = append(es, graph.Edit{Op: r.Intn(8), U: r.Intn(5), V: r.Intn(5), Label: uint8(r.Intn(3)), Weight: r.Intn(3)})
		}
		s.Apply(name, es...)
	}
	return s.Len() > n
}

// P54.5, P54.7 and P54.8: crashes after any prefix of the log restore the state after the last complete operation.
func TestCrashes(t *testing.T) {
	r := rand.New(rand.NewSource(1))
	for range 12 {
		s := New()
		states := []*Store{New()}
		ends := []int{0}
		for range 40 {
			before := s.Bytes()
			if randomStep(r, s) {
				c, n, e := Open(s.Bytes())
				if e != api.OK || n != len(s.Bytes()) || !c.Equal(s) || string(c.Bytes()) != string(s.Bytes()) {
					t.Fatal(n, e)
				}
				states, ends = append(states, c), append(ends, n)
			} else if string(before) != string(s.Bytes()) {
				t.Fatal("log")
			}
		}
		all := s.Bytes()
		for range 25 {
			n := r.Intn(len(all) + 1)
			at, exact := slices.BinarySearch(ends, n)
			if !exact {
				at--
			}
			c, m, e := Open(all[:n])
			if m != ends[at] || !c.Equal(states[at]) || (e == api.OK) != exact || !exact && e != api.ErrTruncated {
				t.Fatal(n, m, e)
			}
		}
		for i, e := range s.log.Entries() {
			if e.Data == "" {
				continue
			}
			b := slices.Clone(all)
			b[ends[i+1]-2-r.Intn(len(e.Data))] ^= 1
			if c, m, e := Open(b); m != ends[i] || e != api.ErrTruncated || !c.Equal(states[i]) {
				t.Fatal(i, m, e)
			}
		}
		checkVersions(t, s)
		compact, _, _ := Open(all)
		if e := compact.Compact(); e != api.OK {
			t.Fatal(e)
		}
		checkCompact(t, s, compact)
	}
}

func checkVersions(t *testing.T, s *Store) {
	for _, name := range s.Names() {
		v := s.Version(name)
		g, e := s.At(name, v)
		if e != api.OK || !g.Equal(s.Graph(name)) {
			t.Fatal(name, e)
		}
		if g, e := s.At(name, 0); e != api.OK || !g.Equal(graph.New()) {
			t.Fatal(e)
		}
		for _, query := range s.Queries(name) {
			text, kind, is := s.Query(name, query)
			a, has := s.Answer(name, query)
			q, _, _ := formula.Parse(text)
			m, _ := standing.New(g)
			if want, e := m.Register("x", q, kind); !is || !has || e != api.OK || a != want {
				t.Fatal(a, want)
			}
		}
		g.Apply(add(77))
		if again, _ := s.At(name, v); again.Equal(g) || s.Graph(name).Equal(g) {
			t.Fatal("shared")
		}
	}
}

func checkCompact(t *testing.T, s, c *Store) {
	entries := 0
	for _, name := range s.Names() {
		n, _ := s.Graph(name).Len()
		version := min(n, 1)
		entries += 1 + version + len(s.Queries(name))
		if !c.Graph(name).Equal(s.Graph(name)) || c.Version(name) != version || !slices.Equal(c.Queries(name), s.Queries(name)) {
			t.Fatal(name)
		}
		for _, q := range s.Queries(name) {
			a, _ := s.Answer(name, q)
			b, _ := c.Answer(name, q)
			text, kind, _ := s.Query(name, q)
			other, same, _ := c.Query(name, q)
			if a != b || text != other || kind != same {
				t.Fatal(q)
			}
		}
	}
	if again, n, e := Open(c.Bytes()); e != api.OK || n != len(c.Bytes()) || !again.Equal(c) || c.Len() != entries || !slices.Equal(c.Names(), s.Names()) {
		t.Fatal(e, c.Len(), entries)
	}
}

func TestExample(t *testing.T) {
	s := New()
	e1 := s.Create("g")
	_, e2 := s.Apply("g", graph.Edit{Op: graph.AddVertex, U: 3, V: 9})
	a, e3 := s.Register("g", "n", "find set X: true", standing.Count)
	l := s.log.Entries()
	if e1 != api.OK || e2 != api.OK || e3 != api.OK || a != "2" || s.Len() != 3 || l[0] != (wal.Entry{Name: "g", Data: "create"}) || l[1].Data != "apply\nadd 3 0 0\n" || l[2].Data != "register 1 n\nfind set X: true" {
		t.Error(a, l)
	}
	events, e := s.Apply("g", add(4), graph.Edit{Op: graph.AddEdge, U: 4, V: 3, Label: 1})
	if e != api.OK || !slices.Equal(events, []standing.Event{{Name: "n", Old: "2", New: "4"}}) || s.Version("g") != 2 {
		t.Error(events, e)
	}
	events, e = s.Revert("g", 1)
	if e != api.OK || !slices.Equal(events, []standing.Event{{Name: "n", Old: "4", New: "2"}}) || s.Version("g") != 3 || s.log.Entries()[4].Data != "apply\ndrop 4\n" {
		t.Error(events, s.log.Entries()[4])
	}
	if e := s.Unregister("g", "n"); e != api.OK || s.log.Entries()[5].Data != "unregister n" {
		t.Error(e)
	}
	if e := s.Drop("g"); e != api.OK || s.log.Entries()[6].Data != "drop" || s.Graph("g") != nil || s.Version("g") != -1 {
		t.Error(e)
	}
}

// P54.5: entries that are not replayable.
func TestReplay(t *testing.T) {
	j := wal.New()
	j.Append(wal.Entry{Name: "g", Data: "create"})
	good := len(j.Bytes())
	for _, data := range []string{"", "create", "create ", "create\n", "Create", "apply", "apply \n", "apply\ndrop 9\n", "apply\nadd 1 0 0", "apply x\n", "register", "register 1 q", "register 1\ntrue", "register 12 q\ntrue", "register 4 q\ntrue", "register x q\ntrue", "register 1 q r\ntrue", "register 1 q\ntrue true", "register  1 q\ntrue", "unregister q", "unregister", "drop now", "drop\n", "other"} {
		k := j.Clone()
		k.Append(wal.Entry{Name: "g", Data: data})
		k.Append(wal.Entry{Name: "h", Data: "create"})
		s, n, e := Open(k.Bytes())
		if n != good || e != api.ErrFormat || !slices.Equal(s.Names(), []string{"g"}) || s.Len() != 1 {
			t.Errorf("%q %d %d", data, n, e)
		}
		if _, n, e := Open(append(k.Bytes(), 'x')); n != good || e != api.ErrFormat {
			t.Errorf("%q %d %d", data, n, e)
		}
	}
	for _, data := range []string{"drop", "apply\n", "apply\nadd 1 0 0\n", "register 0 q\ntrue", "register 1 q\nfind set X:\ntrue"} {
		k := j.Clone()
		k.Append(wal.Entry{Name: "g", Data: data})
		if s, n, e := Open(k.Bytes()); e != api.OK || n != len(k.Bytes()) || string(s.Bytes()) != string(k.Bytes()) {
			t.Errorf("%q %d", data, e)
		}
	}
}

func TestErrors(t *testing.T) {
	s := New()
	for name, want := range map[string]api.Errno{"": api.ErrUnknown, "a b": api.ErrUnknown, strings.Repeat("n", 33): api.ErrUnknown, "\x7f": api.ErrUnknown, strings.Repeat("n", 32): api.OK} {
		if e := s.Create(name); e != want {
			t.Error(name, e)
		}
	}
	for i := range 15 {
		s.Create(strconv.Itoa(i))
	}
	n := s.Len()
	_, e1 := s.Apply("x", graph.Edit{Op: 99})
	_, e2 := s.Revert("x", 0)
	_, e3 := s.Revert("0", 1)
	_, e4 := s.Revert("0", -1)
	_, e5 := s.At("x", 0)
	_, e6 := s.At("0", 1)
	_, e7 := s.Register("x", "", "%", 9)
	for i, e := range []api.Errno{e1, e2, e3, e4, e5, e6, e7, s.Drop("x"), s.Unregister("x", "q"), s.Unregister("0", "q")} {
		if e != api.ErrNotFound {
			t.Error(i, e)
		}
	}
	_, e1 = s.Apply("0", graph.Edit{Op: 99})
	_, e2 = s.Register("0", "a b", "%", 9)
	_, e3 = s.Register("0", "q", "%", 9)
	_, e4 = s.Register("0", "q", "x is 1", 9)
	_, e5 = s.Register("0", "q", "x is 1", 0)
	if e1 != api.ErrKind || e2 != api.ErrUnknown || e3 != api.ErrFormat || e4 != api.ErrKind || e5 != api.ErrUnbound || s.Create("16") != api.ErrLimit || s.Create("1") != api.ErrDuplicate || s.Len() != n || len(s.Names()) != 16 {
		t.Error(e1, e2, e3, e4, e5)
	}
	long := "true" + strings.Repeat(" ", 65530)
	if a, e := s.Register("0", "q", long, 0); a != "" || e != api.ErrRange || len(s.Queries("0")) != 0 {
		t.Error(e)
	}
	var es []graph.Edit
	for i := range 4000 {
		es = append(es, graph.Edit{Op: graph.SetVertexWeight, U: 1000 + i%2, Weight: -1048576})
	}
	if l, e := s.Apply("0", append([]graph.Edit{add(1000), add(1001)}, es...)...); l != nil || e != api.ErrRange || s.Version("0") != 0 {
		t.Error(e)
	}
	if text, kind, is := s.Query("0", "q"); text != "" || kind != 0 || is {
		t.Error(text)
	}
	if a, is := s.Answer("x", "q"); a != "" || is || s.Queries("x") != nil {
		t.Error(a)
	}
	var none *Store
	_, e1 = none.Apply("")
	_, e2 = none.Revert("", 0)
	_, e3 = none.At("", 0)
	_, e4 = none.Register("", "", "", 0)
	for i, e := range []api.Errno{e1, e2, e3, e4, none.Create(""), none.Drop(""), none.Unregister("", ""), none.Compact()} {
		if e != api.ErrArgument {
			t.Error(i, e)
		}
	}
	_, _, is := none.Query("", "")
	_, has := none.Answer("", "")
	if none.Names() != nil || none.Queries("") != nil || is || has || none.Graph("") != nil || none.Version("") != -1 || none.Bytes() != nil || none.Len() != 0 || !none.Equal(nil) || none.Equal(s) || s.Equal(nil) {
		t.Error("nil")
	}
}
