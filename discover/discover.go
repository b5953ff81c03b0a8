// Package discover enumerates the states of deterministic automata in rounds, as layers 33, 34 and 37 number them.
package discover

// Rounds numbers states in the order of their discovery. In each round it calls step for the symbols in increasing
// order, and for each symbol with all lists of operands from earlier rounds for which it was not called before, in
// lexicographic order. The function step returns the number of the result; the number of a new state is the number of
// states discovered so far. It is called once for each symbol and list. If it returns false, the enumeration ends.
func Rounds(ranks []int, step func(symbol int, operands []int) (int, bool)) bool {
	count := 0
	call := func(symbol int, operands ...int) bool {
		n, ok := step(symbol, operands)
		if n == count {
			count++
		}
		return ok
	}
	for before, limit, first := 0, 0, true; first || limit > before; before, limit, first = limit, count, false {
		for symbol, rank := range ranks {
			if !eachList(rank, before, limit, first, func(operands ...int) bool { return call(symbol, operands...) }) {
				return false
			}
		}
	}
	return true
}

// eachList calls take for the lists of operands below limit that are not all below before.
func eachList(rank, before, limit int, first bool, take func(operands ...int) bool) bool {
	if rank == 0 {
		return !first || take()
	}
	for a := range limit {
		if rank == 1 {
			if a >= before && !take(a) {
				return false
			}
			continue
		}
		for b := range limit {
			if (a >= before || b >= before) && !take(a, b) {
				return false
			}
		}
	}
	return true
}

// Lists calls take for all lists of numbers below n of a length up to 2, in lexicographic order.
func Lists(n, length int, take func(l ...int)) {
	switch length {
	case 0:
		take()
	case 1:
		for a := range n {
			take(a)
		}
	case 2:
		for a := range n {
			for b := range n {
				take(a, b)
			}
		}
	}
}
