package console

import (
	"strconv"
	"strings"

	"palmette/api"
	"palmette/decimal"
	"palmette/graph"
	"palmette/graphio"
	"palmette/standing"
	"palmette/store"
	"palmette/treewidth"
	"palmette/twbounds"
)

const (
	maxNumber     = 999_999_999
	editSeparator = " ; "
)

// done returns the result of a command without output of its own.
func done(e api.Errno) result {
	return func() ([]string, api.Errno) { return []string{"ok"}, e }
}

// fail returns the result of a command that fails.
func fail(e api.Errno) result {
	return func() ([]string, api.Errno) { return nil, e }
}

// lines returns the result of a command whose output consists of the lines of a text.
func lines(text string, e api.Errno) result {
	return func() ([]string, api.Errno) {
		if text == "" {
			return nil, e
		}
		return strings.Split(strings.TrimSuffix(text, "\n"), "\n"), e
	}
}

// words returns the result of a command whose output is one line.
func words(l ...string) result { return lines(strings.Join(l, " "), api.OK) }

// withNumber reads a number and passes it on.
func withNumber(s string, run func(n int) result) result {
	n, ok := decimal.Parse(s, maxNumber)
	if !ok {
		return fail(api.ErrFormat)
	}
	return run(n)
}

// withGraph passes a graph of the store on.
func (c *Console) withGraph(name string, run func(g *graph.Graph) result) result {
	g := c.store.Graph(name)
	if g == nil {
		return fail(api.ErrNotFound)
	}
	return run(g)
}

func create(c *Console, args []string) result { return done(c.store.Create(args[0])) }

func drop(c *Console, args []string) result { return done(c.store.Drop(args[0])) }

func graphs(c *Console, _ []string) result {
	return lines(strings.Join(c.store.Names(), "\n"), api.OK)
}

// eventLines returns the result of a command that changes a graph.
func eventLines(events []standing.Event, e api.Errno) result {
	return func() ([]string, api.Errno) {
		var l []string
		for _, x := range events {
			l = append(l, "event "+x.Name+" "+x.Old+" "+x.New)
		}
		return append(l, "ok"), e
	}
}

func edit(c *Console, args []string) result {
	var l []graph.Edit
	for _, text := range strings.Split(args[1], editSeparator) {
		x, e := graphio.ParseEdit(text)
		if e != api.OK {
			return fail(e)
		}
		l = append(l, x)
	}
	return eventLines(c.store.Apply(args[0], l...))
}

func show(c *Console, args []string) result {
	return c.withGraph(args[0], func(g *graph.Graph) result { return lines(graphio.FormatGraph(g), api.OK) })
}

func version(c *Console, args []string) result {
	return c.withGraph(args[0], func(*graph.Graph) result { return words(strconv.Itoa(c.store.Version(args[0]))) })
}

func revert(c *Console, args []string) result {
	return withNumber(args[1], func(n int) result { return eventLines(c.store.Revert(args[0], n)) })
}

func width(c *Console, args []string) result {
	return c.withGraph(args[0], func(g *graph.Graph) result {
		upper, _ := twbounds.UpperBound(g)
		l := []string{"lower", strconv.Itoa(twbounds.LowerBound(g)), "upper", strconv.Itoa(upper)}
		if exact, _, e := treewidth.Width(g); e == api.OK {
			l = append(l, "exact", strconv.Itoa(exact))
		}
		return words(l...)
	})
}

func logSize(c *Console, _ []string) result {
	return words("entries", strconv.Itoa(c.store.Len()), "bytes", strconv.Itoa(len(c.store.Bytes())))
}

func compact(c *Console, _ []string) result { return done(c.store.Compact()) }

func crash(c *Console, args []string) result {
	return withNumber(args[0], func(n int) result {
		b := c.store.Bytes()
		s, used, e := store.Open(b[:min(n, len(b))])
		c.store = s
		return func() ([]string, api.Errno) {
			l := []string{"recovered " + strconv.Itoa(used)}
			if e != api.OK {
				l = append(l, errorLine(e))
			}
			return l, api.OK
		}
	})
}
