package attach

import (
	"testing"

	"palmette/api"
	"palmette/term"
)

func TestResolve(t *testing.T) {
	x, e := term.Parse("f1(j(m1,0(j(j(v0,5,0,0)(v1,7,0,0))(e0,1,0,0)))(f2(j(v2,9,0,0)(j(e2,0,0,0)(e1,2,0,0)))))")
	if e != api.OK {
		t.Fatal(e)
	}
	n := Resolve(x)
	at := func(n Node, p int) int { return n.At[p] }
	join := n.Args[0]
	moved, other := join.Args[0], join.Args[1]
	if at(n, 0) != 7 || at(n, 1) != None || at(join, 1) != 5 || at(moved, 0) != 7 || at(moved, 1) != 5 || at(moved.Args[0], 0) != 5 {
		t.Error(n)
	}
	// The ports 0 and 1 of the second part are bare there.
	inner := other.Args[0].Args[1]
	if at(other, 0) != 7 || at(other, 1) != 5 || at(other, 2) != None || at(inner.Args[0], 2) != 9 || at(inner.Args[0], 0) != 7 || at(inner.Args[1], 1) != 5 {
		t.Error(other)
	}
}
