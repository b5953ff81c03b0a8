package graphio

import (
	"strconv"
	"strings"

	"palmette/api"
	"palmette/bitset"
	"palmette/decimal"
	"palmette/graph"
)

// FormatEdgeSet returns the text of a set of edges, which are given by their indices.
func FormatEdgeSet(g *graph.Graph, places bitset.Set) (string, api.Errno) {
	if g == nil {
		return "", api.ErrArgument
	}
	if !places.SubsetOf(g.EdgeSet()) {
		return "", api.ErrNotFound
	}
	edges := g.Edges()
	var l []string
	for i := range places.All() {
		l = append(l, strconv.Itoa(edges[i].U)+"-"+strconv.Itoa(edges[i].V))
	}
	return "{" + strings.Join(l, " ") + "}", api.OK
}

// ParseEdgeSet returns the set of edge indices whose text is s.
func ParseEdgeSet(g *graph.Graph, s string) (bitset.Set, api.Errno) {
	if g == nil {
		return bitset.Set{}, api.ErrArgument
	}
	if s == "{}" {
		return bitset.Set{}, api.OK
	}
	if s == "" || s[0] != '{' {
		return bitset.Set{}, api.ErrFormat
	}
	var r bitset.Set
	lastU, lastV := -1, -1
	for at := 1; ; at++ {
		u, v, end, ok := readEdge(s, at)
		if !ok || u >= v || u < lastU || u == lastU && v <= lastV {
			return bitset.Set{}, api.ErrFormat
		}
		_, i, is := g.Edge(u, v)
		if !is {
			return bitset.Set{}, api.ErrNotFound
		}
		r, lastU, lastV, at = r.With(i), u, v, end
		if at == len(s)-1 && s[at] == '}' {
			return r, api.OK
		}
		if at == len(s) || s[at] != ' ' {
			return bitset.Set{}, api.ErrFormat
		}
	}
}

// readEdge reads two numbers with a hyphen between them, and returns the index behind them.
func readEdge(s string, at int) (u, v, end int, ok bool) {
	u, end, ok = decimal.Read(s, at, maxNumber)
	if !ok || end == len(s) || s[end] != '-' {
		return 0, 0, end, false
	}
	v, end, ok = decimal.Read(s, end+1, maxNumber)
	return u, v, end, ok
}

// FormatSets returns the text of a list of sets.
func FormatSets(l []bitset.Set) string {
	if len(l) == 0 {
		return "-"
	}
	var texts []string
	for _, r := range l {
		texts = append(texts, r.String())
	}
	return strings.Join(texts, "; ")
}

// ParseSets returns the list of sets whose text is s.
func ParseSets(s string) ([]bitset.Set, api.Errno) {
	if s == "-" {
		return nil, api.OK
	}
	var l []bitset.Set
	for _, piece := range strings.Split(s, "; ") {
		r, e := bitset.Parse(piece)
		if e != api.OK {
			return nil, e
		}
		l = append(l, r)
	}
	return l, api.OK
}

// Diff returns edits that transform one graph into another one.
func Diff(from, to *graph.Graph) []graph.Edit {
	l := removals(from, to)
	var added, changed []graph.Edit
	for _, v := range to.Vertices() {
		old, is := from.Vertex(v.Id)
		if !is {
			added = append(added, graph.Edit{Op: graph.AddVertex, U: v.Id, Label: v.Label, Weight: v.Weight})
			continue
		}
		if old.Label != v.Label {
			changed = append(changed, graph.Edit{Op: graph.SetVertexLabel, U: v.Id, Label: v.Label})
		}
		if old.Weight != v.Weight {
			changed = append(changed, graph.Edit{Op: graph.SetVertexWeight, U: v.Id, Weight: v.Weight})
		}
	}
	l = append(append(l, added...), changed...)
	for _, x := range to.Edges() {
		old, _, is := from.Edge(x.U, x.V)
		if !is {
			l = append(l, graph.Edit{Op: graph.AddEdge, U: x.U, V: x.V, Label: x.Label, Weight: x.Weight})
			continue
		}
		if old.Label != x.Label {
			l = append(l, graph.Edit{Op: graph.SetEdgeLabel, U: x.U, V: x.V, Label: x.Label})
		}
		if old.Weight != x.Weight {
			l = append(l, graph.Edit{Op: graph.SetEdgeWeight, U: x.U, V: x.V, Weight: x.Weight})
		}
	}
	return l
}

// removals returns the edits that remove what only the first graph has.
func removals(from, to *graph.Graph) []graph.Edit {
	kept := to.VertexSet()
	var l []graph.Edit
	for id := range from.VertexSet().Minus(kept).All() {
		l = append(l, graph.Edit{Op: graph.RemoveVertex, U: id})
	}
	for _, x := range from.Edges() {
		if _, _, is := to.Edge(x.U, x.V); !is && kept.Has(x.U) && kept.Has(x.V) {
			l = append(l, graph.Edit{Op: graph.RemoveEdge, U: x.U, V: x.V})
		}
	}
	return l
}
