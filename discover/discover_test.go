package discover

import (
	"reflect"
	"testing"
)

func TestRounds(t *testing.T) {
	// Symbol 0 leads to 1, symbol 2 is the sum modulo 4 of two states, symbol 1 doubles.
	var order []int
	number := map[int]int{}
	var calls [][]int
	done := Rounds([]int{0, 1, 2}, func(symbol int, operands []int) (int, bool) {
		calls = append(calls, append([]int{symbol}, operands...))
		v := 1
		if symbol > 0 {
			v = order[operands[0]] * 2
		}
		if symbol == 2 {
			v = order[operands[0]] + order[operands[1]]
		}
		v %= 4
		if _, is := number[v]; !is {
			number[v] = len(order)
			order = append(order, v)
		}
		return number[v], true
	})
	if !done || !reflect.DeepEqual(order, []int{1, 2, 0, 3}) {
		t.Error(order)
	}
	seen := map[string]bool{}
	for _, c := range calls {
		key := ""
		for _, n := range c {
			key += string(rune('a' + n))
		}
		if seen[key] {
			t.Error("twice", c)
		}
		seen[key] = true
	}
	if len(calls) != 1+4+16 || !reflect.DeepEqual(calls[:3], [][]int{{0}, {1, 0}, {2, 0, 0}}) {
		t.Error(calls)
	}
	if Rounds([]int{0, 0}, func(symbol int, _ []int) (int, bool) { return 0, symbol == 0 }) {
		t.Error("stop")
	}
}
