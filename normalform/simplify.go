package normalform

import (
	"slices"

	"palmette/api"
	"palmette/formula"
	"palmette/scope"
)

func isTrue(n formula.Node) bool { return n.Op == formula.True }

func isFalse(n formula.Node) bool { return n.Op == formula.False }

func isNegation(a, b formula.Node) bool {
	return a.Op == formula.Not && formula.Equal(a.L[0], b) || b.Op == formula.Not && formula.Equal(b.L[0], a)
}

// simplification tells when a rule applies to a node with simplified operands, and to what it leads.
type simplification struct {
	applies func(n formula.Node) bool
	result  func(n formula.Node) formula.Node
}

func constant(op int) func(formula.Node) formula.Node {
	return func(formula.Node) formula.Node { return formula.Node{Op: op} }
}

func first(n formula.Node) formula.Node { return n.L[0] }

func second(n formula.Node) formula.Node { return n.L[1] }

func either(n formula.Node, is func(formula.Node) bool) bool { return is(n.L[0]) || is(n.L[1]) }

func bothEqual(n formula.Node) bool { return formula.Equal(n.L[0], n.L[1]) }

// lattice returns the rules of And; those of Or exchange true and false.
func lattice(neutral, absorbing func(formula.Node) bool, absorb int) []simplification {
	return []simplification{
		{func(n formula.Node) bool { return neutral(n.L[0]) }, second},
		{func(n formula.Node) bool { return neutral(n.L[1]) }, first},
		{func(n formula.Node) bool { return either(n, absorbing) || isNegation(n.L[0], n.L[1]) }, constant(absorb)},
		{bothEqual, first},
	}
}

// simplifications returns the rules for an operation, in their order.
func simplifications(op int) []simplification {
	negation := func(operand func(formula.Node) formula.Node) func(formula.Node) formula.Node {
		return func(n formula.Node) formula.Node { return simplifyNode(node(formula.Not, operand(n))) }
	}
	switch op {
	case formula.Equals, formula.Subset:
		return []simplification{{func(n formula.Node) bool { return n.Names[0] == n.Names[1] }, constant(formula.True)}}
	case formula.SizeMod:
		return []simplification{{func(n formula.Node) bool { return n.M == 1 }, constant(formula.True)}}
	case formula.Not:
		return []simplification{
			{func(n formula.Node) bool { return isTrue(n.L[0]) }, constant(formula.False)},
			{func(n formula.Node) bool { return isFalse(n.L[0]) }, constant(formula.True)},
			{func(n formula.Node) bool { return n.L[0].Op == formula.Not }, func(n formula.Node) formula.Node { return n.L[0].L[0] }},
		}
	case formula.And:
		return lattice(isTrue, isFalse, formula.False)
	case formula.Or:
		return lattice(isFalse, isTrue, formula.True)
	case formula.Implies:
		return []simplification{
			{func(n formula.Node) bool { return isTrue(n.L[0]) }, second},
			{func(n formula.Node) bool { return isFalse(n.L[0]) || isTrue(n.L[1]) || bothEqual(n) }, constant(formula.True)},
			{func(n formula.Node) bool { return isFalse(n.L[1]) }, negation(first)},
		}
	case formula.Iff:
		return []simplification{
			{bothEqual, constant(formula.True)},
			{func(n formula.Node) bool { return isTrue(n.L[0]) }, second},
			{func(n formula.Node) bool { return isTrue(n.L[1]) }, first},
			{func(n formula.Node) bool { return isFalse(n.L[0]) }, negation(second)},
			{func(n formula.Node) bool { return isFalse(n.L[1]) }, negation(first)},
		}
	case formula.Exists, formula.ForAll:
		return []simplification{
			{func(n formula.Node) bool {
				return n.Sort >= formula.VertexSet && !slices.Contains(scope.Free(n.L[0]), n.Names[0])
			}, first},
			{func(n formula.Node) bool {
				return n.Sort < formula.VertexSet && (n.Op == formula.Exists && isFalse(n.L[0]) || n.Op == formula.ForAll && isTrue(n.L[0]))
			}, first},
		}
	}
	return nil
}

// simplifyNode applies the first rule that applies to a node, whose operands are simplified.
func simplifyNode(n formula.Node) formula.Node {
	for _, s := range simplifications(n.Op) {
		if s.applies(n) {
			return s.result(n)
		}
	}
	return n
}

// Simplify returns the simplified form.
func Simplify(n formula.Node) (formula.Node, api.Errno) {
	if e := formula.Check(n); e != api.OK {
		return formula.Node{}, e
	}
	var simplify func(n formula.Node) formula.Node
	simplify = func(n formula.Node) formula.Node {
		for i, x := range n.L {
			n.L[i] = simplify(x)
		}
		return simplifyNode(n)
	}
	return checked(simplify(formula.Clone(n)))
}
