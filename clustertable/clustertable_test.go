package clustertable

import (
	"math/rand"
	"slices"
	"testing"

	"palmette/api"
	"palmette/bignat"
	"palmette/bitset"
	"palmette/frame"
	"palmette/kernel"
	"palmette/sample"
	"palmette/semiring"
	"palmette/term"
	"palmette/toptree"
	"palmette/treedecomp"
	"palmette/weighted"
)

// The tables of all clusters are those of the subterms of the cluster tree's term.
func TestTables(t *testing.T) {
	r := rand.New(rand.NewSource(1))
	k, _ := kernel.Parse("ve (and (not (adj 0 0)) (on 0 1))")
	var ring semiring.Natural
	for range 30 {
		parents, sets, g := sample.Tree(r.Intn, 1+r.Intn(8))
		var bags treedecomp.Tree
		for i, p := range parents {
			bags = append(bags, treedecomp.Bag{Parent: p, Vertices: bitset.Of(sets[i]...)})
		}
		f, _ := frame.New(bags)
		x, e := toptree.New(f)
		m, h := weighted.New[bignat.Nat](k, ring, weighted.Unit[bignat.Nat]{R: ring})
		if e != api.OK || h != api.OK {
			t.Fatal(e, h)
		}
		contents := Contents(g, f)
		tables := make([]Table[bignat.Nat], x.Len())
		for at := range tables {
			n, _ := x.Node(at)
			if n.Kind == toptree.Leaf {
				tables[at], e = Leaf(m, contents[n.Bag])
				leaf, _ := x.LeafTerm(g, n.Bag)
				if s, _ := term.Check(leaf); s.Ports != tables[at].Ports {
					t.Fatal(at)
				}
			} else {
				merge, _ := x.Merge(at)
				var parts []Table[bignat.Nat]
				for _, c := range n.Children {
					parts = append(parts, tables[c])
				}
				tables[at], e = Combine(m, merge, parts)
			}
			if ports, f := x.PresentPorts(g, at); e != api.OK || f != api.OK || ports != tables[at].Ports {
				t.Fatal(at, e, f)
			}
		}
		whole, _ := x.Term(g)
		want, e := m.Evaluate(whole)
		texts, sums := m.Entries(want)
		got, values := m.Entries(tables[x.Root()].Sums)
		if e != api.OK || !slices.Equal(texts, got) || !slices.EqualFunc(sums, values, bignat.Nat.Equal) {
			t.Fatal(got, texts)
		}
	}
}
