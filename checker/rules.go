package checker

import (
	"math/bits"

	"palmette/kernel"
	"palmette/term"
)

const (
	maxTable  = 1 << 14 // states of a table
	maxStates = 1 << 20 // states of all tables, and dead ones
)

// table maps the texts of states to their values.
type table map[string]value

// stateKey identifies a state.
type stateKey struct {
	ports uint16
	masks [maxTracks]uint16
	node  int
}

// verifier computes the tables of a term and compares them with those of a certificate.
type verifier struct {
	f      *formula
	sorts  []int
	a      arithmetic
	tables [][]entry
	next   int // the number of tables that have been looked at
	known  map[stateKey]bool
	rules  [term.NumOps]func(t term.Term, args []table) *builder
}

func newVerifier(k kernel.Kernel, a arithmetic, tables [][]entry) *verifier {
	v := &verifier{f: newFormula(k), sorts: k.Sorts, a: a, tables: tables, known: map[stateKey]bool{}}
	v.rules = [term.NumOps]func(term.Term, []table) *builder{
		term.Empty: v.element, term.Vertex: v.element, term.Edge: v.element, term.Join: v.join,
		term.Forget: func(t term.Term, args []table) *builder {
			return v.moved(args[0], func(mask uint16) uint16 { return mask &^ (1 << t.P) })
		},
		term.Rename: v.rename,
	}
	v.build().add(part{}.state(v, choice{}), a.one) // the state of the empty graph is known from the start
	return v
}

// builder collects a table.
type builder struct {
	v    *verifier
	sums table
	ok   bool
}

func (v *verifier) build() *builder { return &builder{v, table{}, true} }

func (b *builder) add(s state, weight value) {
	b.v.known[stateKey{s.ports, s.masks, s.node.id}] = true
	b.ok = b.ok && !b.v.f.exceeded && len(b.v.known) <= maxStates
	if s.node == b.v.f.dead {
		return
	}
	text := b.v.text(s)
	if sum, is := b.sums[text]; is {
		weight = b.v.a.add(sum, weight)
	}
	b.sums[text] = weight
}

// verify returns the table of a term if those of all its nodes are in the certificate.
func (v *verifier) verify(t term.Term) (table, bool) {
	var args []table
	for _, x := range t.Args {
		a, ok := v.verify(x)
		if !ok {
			return nil, false
		}
		args = append(args, a)
	}
	given := v.tables[v.next]
	v.next++
	b := v.rules[t.Op](t, args)
	if !b.ok || len(b.sums) > maxTable || len(b.sums) != len(given) {
		return nil, false
	}
	for _, x := range given {
		sum, is := b.sums[x.state]
		if !is || v.a.text(sum) != x.value {
			return nil, false
		}
	}
	return b.sums, true
}

// answer returns the text of the sum of all accepting states.
func (v *verifier) answer(root table) string {
	var sum value
	for text, x := range root {
		if s, ok := v.parseState(text); ok && v.f.accepts(0, s.node) {
			sum = v.a.add(sum, x)
		}
	}
	return v.a.text(sum)
}

// states returns the parsed states of a table.
func (v *verifier) states(t table) map[string]state {
	l := map[string]state{}
	for text := range t {
		l[text], _ = v.parseState(text)
	}
	return l
}

func (v *verifier) join(_ term.Term, args []table) *builder {
	b := v.build()
	left, right := v.states(args[0]), v.states(args[1])
	agreeing := map[[maxTracks]uint16][]string{}
	var common uint16
	for _, x := range left {
		for _, y := range right {
			common = x.ports & y.ports
			break
		}
		break
	}
	at := func(s state) [maxTracks]uint16 {
		for track := range s.masks {
			s.masks[track] &= common
		}
		return s.masks
	}
	for text, y := range right {
		agreeing[at(y)] = append(agreeing[at(y)], text)
	}
	for text, x := range left {
		for _, other := range agreeing[at(x)] {
			y := right[other]
			s := state{ports: x.ports | y.ports, node: v.f.join(0, x.node, y.node, common)}
			for track := range s.masks {
				s.masks[track] = x.masks[track] | y.masks[track]
			}
			b.add(s, v.a.mul(args[0][text], args[1][other]))
		}
	}
	return b
}

// moved returns the table in which all masks are changed by a function.
func (v *verifier) moved(t table, change func(mask uint16) uint16) *builder {
	b := v.build()
	done := map[int]*node{}
	for text, s := range v.states(t) {
		r := state{ports: change(s.ports), node: v.f.move(0, s.node, change, done)}
		for track := range s.masks {
			r.masks[track] = change(s.masks[track])
		}
		b.add(r, t[text])
	}
	return b
}

func (v *verifier) rename(t term.Term, args []table) *builder {
	inner, _ := term.Check(t.Args[0])
	var place [term.NumPorts]int
	i := 0
	for p := range place {
		if inner.Ports>>p&1 == 1 {
			place[p] = t.To[i]
			i++
		}
	}
	return v.moved(args[0], func(mask uint16) uint16 {
		var r uint16
		for ; mask != 0; mask &= mask - 1 {
			r |= 1 << place[bits.TrailingZeros16(mask)]
		}
		return r
	})
}
