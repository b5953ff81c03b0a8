package nta

import (
	"slices"

	"palmette/api"
	"palmette/rankedtree"
)

// checkBoth returns the error of two automata that are to be combined.
func checkBoth(a, b Automaton) api.Errno {
	if e := a.Check(); e != api.OK {
		return e
	}
	if e := b.Check(); e != api.OK {
		return e
	}
	if !slices.Equal(a.Ranks, b.Ranks) {
		return api.ErrFormat
	}
	return api.OK
}

// Union returns the disjoint union of two automata.
func Union(a, b Automaton) (Automaton, api.Errno) {
	if e := checkBoth(a, b); e != api.OK {
		return Automaton{}, e
	}
	r, o := a.normalized(), b.normalized()
	if a.States+b.States > MaxStates || len(r.Rules)+len(o.Rules) > MaxRules {
		return Automaton{}, api.ErrLimit
	}
	for _, x := range o.Rules {
		for i := range x.From {
			x.From[i] += a.States
		}
		x.To += a.States
		r.Rules = append(r.Rules, x)
	}
	for _, s := range o.Final {
		r.Final = append(r.Final, s+a.States)
	}
	r.States += b.States
	return r.normalized(), api.OK
}

// Intersection returns the automaton of pairs of states.
func Intersection(a, b Automaton) (Automaton, api.Errno) {
	if e := checkBoth(a, b); e != api.OK {
		return Automaton{}, e
	}
	left, right := a.bySymbol(), b.bySymbol()
	count := 0
	for symbol := range a.Ranks {
		count += len(left[symbol]) * len(right[symbol])
	}
	if a.States*b.States > MaxStates || count > MaxRules {
		return Automaton{}, api.ErrLimit
	}
	pair := func(p, q int) int { return p*b.States + q }
	r := Automaton{Ranks: a.Ranks, States: a.States * b.States}
	for symbol := range a.Ranks {
		for _, x := range left[symbol] {
			for _, y := range right[symbol] {
				rule := Rule{Sym: symbol, To: pair(x.To, y.To)}
				for i := range x.From {
					rule.From = append(rule.From, pair(x.From[i], y.From[i]))
				}
				r.Rules = append(r.Rules, rule)
			}
		}
	}
	for _, p := range a.Final {
		for _, q := range b.Final {
			r.Final = append(r.Final, pair(p, q))
		}
	}
	return r.normalized(), api.OK
}

// checkMap returns the error of a map from the symbols of one alphabet to those of another one.
func checkMap(to []int, from, into rankedtree.Alphabet) api.Errno {
	if len(to) != len(from) {
		return api.ErrFormat
	}
	for s, image := range to {
		if image < 0 || image >= len(into) || into[image] != from[s] {
			return api.ErrFormat
		}
	}
	return api.OK
}

// Relabel returns an automaton for the images of the accepted trees.
func (a Automaton) Relabel(to []int, ranks rankedtree.Alphabet) (Automaton, api.Errno) {
	if e := a.Check(); e != api.OK {
		return Automaton{}, e
	}
	if e := ranks.Check(); e != api.OK {
		return Automaton{}, e
	}
	if e := checkMap(to, a.Ranks, ranks); e != api.OK {
		return Automaton{}, e
	}
	r := a.Clone()
	r.Ranks = ranks
	for i := range r.Rules {
		r.Rules[i].Sym = to[r.Rules[i].Sym]
	}
	return r.normalized(), api.OK
}

// InverseRelabel returns an automaton for the trees whose images are accepted.
func (a Automaton) InverseRelabel(from []int, ranks rankedtree.Alphabet) (Automaton, api.Errno) {
	if e := a.Check(); e != api.OK {
		return Automaton{}, e
	}
	if e := ranks.Check(); e != api.OK {
		return Automaton{}, e
	}
	if e := checkMap(from, ranks, a.Ranks); e != api.OK {
		return Automaton{}, e
	}
	rules := a.bySymbol()
	count := 0
	for _, image := range from {
		count += len(rules[image])
	}
	if count > MaxRules {
		return Automaton{}, api.ErrLimit
	}
	r := Automaton{Ranks: ranks, States: a.States, Final: a.Final}
	for s, image := range from {
		for _, x := range rules[image] {
			x.Sym = s
			r.Rules = append(r.Rules, x)
		}
	}
	return r.normalized(), api.OK
}

// reachable returns the states that some run ends in.
func (a Automaton) reachable() states {
	var known states
	for changed := true; changed; {
		changed = false
		for _, r := range a.Rules {
			if !known[r.To] && !slices.ContainsFunc(r.From, func(s int) bool { return !known[s] }) {
				known[r.To], changed = true, true
			}
		}
	}
	return known
}

// productive returns the states from which a final state can be reached with reachable other states.
func (a Automaton) productive(reachable states) states {
	var known states
	for _, s := range a.Final {
		known[s] = true
	}
	for changed := true; changed; {
		changed = false
		for _, r := range a.Rules {
			for i, s := range r.From {
				others := len(r.From) == 1 || reachable[r.From[1-i]]
				if known[r.To] && others && !known[s] {
					known[s], changed = true, true
				}
			}
		}
	}
	return known
}

// Trim removes every state that is not reachable or not productive.
func (a Automaton) Trim() (Automaton, api.Errno) {
	if e := a.Check(); e != api.OK {
		return Automaton{}, e
	}
	reachable := a.reachable()
	productive := a.productive(reachable)
	number := make([]int, a.States)
	r := Automaton{Ranks: a.Ranks}
	for s := range a.States {
		number[s] = -1
		if reachable[s] && productive[s] {
			number[s] = r.States
			r.States++
		}
	}
	for _, x := range a.Clone().Rules {
		x.To = number[x.To]
		for i, s := range x.From {
			x.From[i] = number[s]
		}
		if x.To >= 0 && !slices.Contains(x.From, -1) {
			r.Rules = append(r.Rules, x)
		}
	}
	for _, s := range a.Final {
		if number[s] >= 0 {
			r.Final = append(r.Final, number[s])
		}
	}
	return r.normalized(), api.OK
}
