package checker

import (
	"strconv"
	"strings"

	"palmette/decimal"
	"palmette/kernel"
)

// state is a state of a partial graph.
type state struct {
	ports uint16
	masks [maxTracks]uint16
	node  *node
}

const maxMask = 1<<16 - 1

// text returns the text of a state.
func (v *verifier) text(s state) string {
	b := strconv.AppendInt(nil, int64(s.ports), 10)
	for track := range v.sorts {
		b = strconv.AppendInt(append(b, ' '), int64(s.masks[track]), 10)
	}
	return string(append(append(b, ' '), s.node.text...))
}

// stateReader reads the text of a state from the left; after an error it accepts nothing.
type stateReader struct {
	f      *formula
	s      string
	at     int
	failed bool
}

func (r *stateReader) accept(word string) bool {
	if r.failed || !strings.HasPrefix(r.s[r.at:], word) {
		return false
	}
	r.at += len(word)
	return true
}

func (r *stateReader) expect(word string) {
	if !r.accept(word) {
		r.failed = true
	}
}

func (r *stateReader) number() int {
	n, end, ok := decimal.Read(r.s, r.at, maxMask)
	r.at = end
	r.failed = r.failed || !ok
	return n
}

// node reads the node of a place.
func (r *stateReader) node(at int) *node {
	p := r.f.places[at]
	switch {
	case r.failed:
		return r.f.dead
	case r.accept(r.f.dead.text):
		return r.f.dead
	case r.accept(r.f.universal.text):
		return r.f.universal
	case p.Op < kernel.Not:
		return r.f.ofValue(at, r.number())
	case p.Op == kernel.Exists:
		return r.set(at)
	}
	open, end := "-", ""
	switch p.Op {
	case kernel.And:
		open, end = "(", ")"
	case kernel.Or:
		open, end = "[", "]"
	}
	r.expect(open)
	var l []*node
	for i, o := range p.operands {
		if i > 0 {
			r.expect(" ")
		}
		l = append(l, r.node(o))
	}
	r.expect(end)
	return r.f.ofOperands(at, l)
}

func (r *stateReader) set(at int) *node {
	r.expect("{")
	c := r.f.collect()
	for more := true; more && !r.failed; more = r.accept(" ") {
		mask := r.number()
		r.expect(":")
		c.add(uint16(mask), r.node(r.f.places[at].operands[0]))
	}
	r.expect("}")
	return c.node(at)
}

// parseState returns the state whose text is s.
func (v *verifier) parseState(s string) (state, bool) {
	r := &stateReader{f: v.f, s: s}
	var x state
	x.ports = uint16(r.number())
	for track := range v.sorts {
		r.expect(" ")
		x.masks[track] = uint16(r.number())
	}
	r.expect(" ")
	x.node = r.node(0)
	return x, !r.failed && r.at == len(s)
}
