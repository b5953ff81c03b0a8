package console

import (
	"strconv"

	"palmette/api"
	"palmette/certificate"
	"palmette/checker"
	"palmette/count"
	"palmette/enumerate"
	"palmette/formula"
	"palmette/graph"
	"palmette/graphio"
	"palmette/kernel"
	"palmette/library"
	"palmette/macro"
	"palmette/nicedecomp"
	"palmette/optimize"
	"palmette/printer"
	"palmette/scope"
	"palmette/standing"
	"palmette/term"
	"palmette/twbounds"
)

// kindOf returns the kind that a word denotes.
func kindOf(words []string, word string) (int, bool) {
	for kind, x := range words {
		if x == word {
			return kind, true
		}
	}
	return 0, false
}

func queryKinds() []string {
	l := make([]string, standing.NumKinds)
	l[standing.Exists], l[standing.Count], l[standing.Min], l[standing.Max] = "exists", "count", "min", "max"
	return l
}

func proofKinds() []string {
	l := make([]string, certificate.Kinds)
	l[certificate.Satisfiable], l[certificate.Count], l[certificate.MinCost] = "satisfiable", "count", "cost"
	return l
}

// read parses a query, expands its macro calls and checks it.
func (c *Console) read(text string) (formula.Query, api.Errno) {
	q, _, e := formula.Parse(text)
	if e != api.OK {
		return formula.Query{}, e
	}
	if q, e = c.macros.Expand(q); e != api.OK {
		return formula.Query{}, e
	}
	return q, scope.Check(q).Code
}

// printed returns the printed form of a query that is read.
func (c *Console) printed(text string) (string, api.Errno) {
	q, e := c.read(text)
	if e != api.OK {
		return "", e
	}
	return printer.Print(q)
}

func register(c *Console, args []string) result {
	kind, ok := kindOf(queryKinds(), args[2])
	if !ok {
		return fail(api.ErrFormat)
	}
	text, e := c.printed(args[3])
	if e != api.OK {
		return fail(e)
	}
	answer, e := c.store.Register(args[0], args[1], text, kind)
	if e != api.OK {
		return fail(e)
	}
	return words("answer", answer)
}

func unregister(c *Console, args []string) result { return done(c.store.Unregister(args[0], args[1])) }

func queries(c *Console, args []string) result {
	return c.withGraph(args[0], func(*graph.Graph) result {
		return func() ([]string, api.Errno) {
			var l []string
			for _, query := range c.store.Queries(args[0]) {
				_, kind, _ := c.store.Query(args[0], query)
				answer, _ := c.store.Answer(args[0], query)
				l = append(l, query+" "+queryKinds()[kind]+" "+answer)
			}
			return l, api.OK
		}
	})
}

func let(c *Console, args []string) result {
	added, _, e := macro.Parse("let " + args[0])
	if e != api.OK {
		return fail(e)
	}
	all := c.macros.Clone()
	for _, name := range added.Names() {
		m, _ := added.Lookup(name)
		if e := all.Add(m); e != api.OK {
			return fail(e)
		}
	}
	c.macros = all
	return done(api.OK)
}

func macros(c *Console, _ []string) result { return lines(c.macros.Format()) }

func libraryText(_ *Console, args []string) result { return lines(library.Text(args[0])) }

func expand(c *Console, args []string) result { return lines(c.printed(args[0])) }

// problem is a kernel over the term of a graph.
type problem struct {
	g *graph.Graph
	k kernel.Kernel
	t term.Term
}

// withProblem passes on the kernel of a query and the term of a graph.
func (c *Console) withProblem(name, text string, run func(p problem) result) result {
	return c.withGraph(name, func(g *graph.Graph) result {
		q, e := c.read(text)
		if e != api.OK {
			return fail(e)
		}
		k, e := kernel.FromQuery(q)
		if e != api.OK {
			return fail(e)
		}
		_, order := twbounds.UpperBound(g)
		t, e := nicedecomp.FromOrder(g, order)
		if e != api.OK {
			return fail(e)
		}
		return run(problem{g, k, t})
	})
}

func countAll(c *Console, args []string) result {
	return c.withProblem(args[0], args[1], func(p problem) result {
		n, e := count.All(p.k, p.t)
		if e != api.OK {
			return fail(e)
		}
		return words(n.String())
	})
}

func solve(c *Console, args []string) result {
	return c.withProblem(args[0], args[1], func(p problem) result {
		best, e := optimize.Optimize(p.k, p.t, false)
		return func() ([]string, api.Errno) {
			if !best.Feasible {
				return []string{"infeasible"}, e
			}
			return []string{"cost " + strconv.Itoa(best.Cost), graphio.FormatSets(best.Assignment)}, e
		}
	})
}

func list(c *Console, args []string) result {
	return withNumber(args[1], func(n int) result {
		return c.withProblem(args[0], args[2], func(p problem) result {
			return func() ([]string, api.Errno) { return p.list(n) }
		})
	})
}

// list returns the first n satisfying assignments.
func (p problem) list(n int) ([]string, api.Errno) {
	l, e := enumerate.New(p.k, p.t)
	if e != api.OK {
		return nil, e
	}
	rows, more, e := l.First()
	var output []string
	for more && e == api.OK && len(output) < n {
		if output = append(output, graphio.FormatSets(rows)); len(output) < n {
			rows, more, e = l.Next(rows)
		}
	}
	return output, e
}

// certify returns the text of the certificate of an answer.
func (p problem) certify(kind int) (string, api.Errno) {
	x, e := certificate.Make(kind, p.k, p.t)
	if e != api.OK {
		return "", e
	}
	return x.Format()
}

// withProof passes on the text of the certificate of an answer.
func (c *Console) withProof(args []string, run func(p problem, proof string) result) result {
	kind, ok := kindOf(proofKinds(), args[1])
	if !ok {
		return fail(api.ErrFormat)
	}
	return c.withProblem(args[0], args[2], func(p problem) result {
		proof, e := p.certify(kind)
		if e != api.OK {
			return fail(e)
		}
		return run(p, proof)
	})
}

func prove(c *Console, args []string) result {
	return c.withProof(args, func(_ problem, proof string) result { return lines(proof, api.OK) })
}

func verify(c *Console, args []string) result {
	return c.withProof(args, func(p problem, proof string) result {
		answer, e := checker.Verify(proof, p.g, p.k)
		if e != api.OK {
			return fail(e)
		}
		return words("verified", answer.Text)
	})
}
