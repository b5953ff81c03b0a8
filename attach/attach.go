// Package attach determines the vertices at the ports of all subterms of a term, introduced there or not.
package attach

import "palmette/term"

// Ports holds the vertex at each port, or None.
type Ports [term.NumPorts]int

// None stands for a port that does not exist.
const None = -1

// Node is a subterm with the vertices at its ports.
type Node struct {
	Term term.Term
	At   Ports
	Args []Node
}

// resolver gives slots to the ends of edges until their vertices are known.
type resolver struct {
	up  []int // a slot for the same vertex, or the slot itself
	ids []int // the vertex of a slot, or None
}

func (r *resolver) slot(id int) int {
	r.up = append(r.up, len(r.up))
	r.ids = append(r.ids, id)
	return len(r.up) - 1
}

func (r *resolver) root(s int) int {
	for r.up[s] != s {
		r.up[s] = r.up[r.up[s]]
		s = r.up[s]
	}
	return s
}

func (r *resolver) merge(a, b int) {
	a, b = r.root(a), r.root(b)
	if a == b {
		return
	}
	r.up[a] = b
	if r.ids[a] != None {
		r.ids[b] = r.ids[a]
	}
}

func noPorts() Ports {
	var p Ports
	for i := range p {
		p[i] = None
	}
	return p
}

// build returns a subterm with the slots at its ports.
func (r *resolver) build(t term.Term) Node {
	n := Node{Term: t, At: noPorts()}
	for _, x := range t.Args {
		n.Args = append(n.Args, r.build(x))
	}
	switch t.Op {
	case term.Vertex:
		n.At[t.P] = r.slot(t.Id)
	case term.Edge:
		n.At[t.P], n.At[t.Q] = r.slot(None), r.slot(None)
	case term.Join:
		n.At = n.Args[0].At
		for p, s := range n.Args[1].At {
			if s != None && n.At[p] != None {
				r.merge(s, n.At[p])
			} else if s != None {
				n.At[p] = s
			}
		}
	case term.Forget:
		n.At = n.Args[0].At
		n.At[t.P] = None
	case term.Rename:
		i := 0
		for _, s := range n.Args[0].At {
			if s != None {
				n.At[t.To[i]] = s
				i++
			}
		}
	}
	return n
}

func (r *resolver) finish(n *Node) {
	for p, s := range n.At {
		if s != None {
			n.At[p] = r.ids[r.root(s)]
		}
	}
	for i := range n.Args {
		r.finish(&n.Args[i])
	}
}

// Resolve returns a valid term, all of whose ports are introduced, with the vertices at the ports of its subterms.
func Resolve(t term.Term) Node {
	var r resolver
	n := r.build(t)
	r.finish(&n)
	return n
}
