package scope

import (
	"slices"
	"strconv"

	"palmette/api"
	"palmette/formula"
	"palmette/lexer"
)

const maxIdent = 16

// candidate returns the k-th candidate name derived from a name, where the first one is the name itself.
func candidate(name string, k int) string {
	if k == 1 {
		return name
	}
	digits := strconv.Itoa(k)
	return name[:min(len(name), maxIdent-len(digits))] + digits
}

// Fresh returns the first candidate name derived from a name that is not taken.
func Fresh(name string, taken []string) string {
	if !lexer.IsIdent(name) {
		return ""
	}
	used := map[string]bool{}
	for _, s := range taken {
		used[s] = true
	}
	for k := 1; ; k++ {
		if s := candidate(name, k); !used[s] {
			return s
		}
	}
}

// Rename replaces a free name in a formula without capture.
func Rename(n formula.Node, from, to string) (formula.Node, api.Errno) {
	if e := formula.Check(n); e != api.OK {
		return formula.Node{}, e
	}
	if !lexer.IsIdent(from) || !lexer.IsIdent(to) {
		return formula.Node{}, api.ErrFormat
	}
	n = formula.Clone(n)
	if from != to {
		rename(&n, from, to)
	}
	return n, api.OK
}

// rename renames in place.
func rename(n *formula.Node, from, to string) {
	l := occurrences(*n)
	for i, name := range l {
		if name == from {
			l[i] = to
		}
	}
	if name, is := binder(*n); is {
		if name == from {
			return
		}
		if name == to && slices.Contains(Free(n.L[0]), from) {
			taken := append(append(Free(n.L[0]), Bound(n.L[0])...), from, to)
			n.Names[0] = Fresh(to, taken)
			rename(&n.L[0], to, n.Names[0])
		}
	}
	for i := range n.L {
		rename(&n.L[i], from, to)
	}
}

// UniqueBinders renames quantified variables so that all binders are distinct.
func UniqueBinders(q formula.Query) (formula.Query, api.Errno) {
	if e := formula.CheckQuery(q); e != api.OK {
		return formula.Query{}, e
	}
	taken := map[string]bool{}
	for _, v := range q.Free {
		taken[v.Name] = true
	}
	for _, name := range Free(q.Body) {
		taken[name] = true
	}
	tried := map[string]int{} // how many candidates of a name are known to be taken
	choose := func(name string) string {
		for k := tried[name] + 1; ; k++ {
			if s := candidate(name, k); !taken[s] {
				taken[s], tried[name] = true, k
				return s
			}
		}
	}
	var visit func(n *formula.Node, env map[string]string)
	visit = func(n *formula.Node, env map[string]string) {
		l := occurrences(*n)
		for i, name := range l {
			if now, is := env[name]; is {
				l[i] = now
			}
		}
		if name, is := binder(*n); is {
			n.Names[0] = choose(name)
			env = with(env, name, n.Names[0])
		}
		for i := range n.L {
			visit(&n.L[i], env)
		}
	}
	r := formula.Query{Free: slices.Clone(q.Free), Body: formula.Clone(q.Body)}
	visit(&r.Body, map[string]string{})
	return r, api.OK
}
