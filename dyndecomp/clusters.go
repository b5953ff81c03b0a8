package dyndecomp

import (
	"strconv"

	"palmette/api"
	"palmette/clustertable"
	"palmette/frame"
	"palmette/graph"
	"palmette/toptree"
	"palmette/weighted"
)

// clusters holds the contents of the clusters of a frame, as integers, with their tables.
type clusters[T any] struct {
	ids    map[string]int // by the text of the content
	tables map[int]clustertable.Table[T]
	next   int // the least integer that has never been used, here or in an evaluator from which this one was obtained
	fresh  int // contents of inner clusters that are new
}

func appendNumbers(b []byte, mark byte, l ...int) []byte {
	b = append(b, mark)
	for _, n := range l {
		b = append(strconv.AppendInt(b, int64(n), 36), ' ')
	}
	return b
}

// leafText returns a text that differs for different contents of leaves.
func leafText(c clustertable.Content) string {
	b := appendNumbers(nil, 'b', c.Ids...)
	for _, v := range c.Vertices {
		b = appendNumbers(b, 'v', v.Id, int(v.Label), v.Weight)
	}
	for _, x := range c.Edges {
		b = appendNumbers(b, 'e', x.U, x.V, int(x.Label), x.Weight)
	}
	return string(b)
}

// innerText returns a text that differs for different merges and contents of children.
func innerText(m toptree.Merge, children []int) string {
	b := appendNumbers(nil, 'l', m.Left...)
	b = appendNumbers(b, 'r', m.Right...)
	b = appendNumbers(b, 'f', m.Forget...)
	b = appendNumbers(b, 't', m.Result...)
	return string(appendNumbers(b, 'c', children...))
}

// build fills in the contents and tables of all clusters, reusing those of an evaluator before, and returns the root's.
func (c *clusters[T]) build(m *weighted.Evaluator[T], g *graph.Graph, f *frame.Frame, before clusters[T]) (clustertable.Table[T], api.Errno) {
	*c = clusters[T]{map[string]int{}, map[int]clustertable.Table[T]{}, before.next, 0}
	tree, e := toptree.New(f)
	if e != api.OK {
		return clustertable.Table[T]{}, e
	}
	contents := clustertable.Contents(g, f)
	ids := make([]int, tree.Len())
	for at := range ids {
		n, _ := tree.Node(at)
		if n.Kind == toptree.Leaf {
			content := contents[n.Bag]
			ids[at], e = c.content(leafText(content), before, func() (clustertable.Table[T], api.Errno) {
				return clustertable.Leaf(m, content)
			})
		} else {
			merge, _ := tree.Merge(at)
			var children []int
			for _, child := range n.Children {
				children = append(children, ids[child])
			}
			ids[at], e = c.content(innerText(merge, children), before, func() (clustertable.Table[T], api.Errno) {
				c.fresh++
				var parts []clustertable.Table[T]
				for _, child := range children {
					parts = append(parts, c.tables[child])
				}
				return clustertable.Combine(m, merge, parts)
			})
		}
		if e != api.OK {
			return clustertable.Table[T]{}, e
		}
	}
	return c.tables[ids[tree.Root()]], api.OK
}

// content returns the integer of a content; its table is computed only if neither this evaluator nor the one before has it.
func (c *clusters[T]) content(text string, before clusters[T], compute func() (clustertable.Table[T], api.Errno)) (int, api.Errno) {
	if id, is := c.ids[text]; is {
		return id, api.OK
	}
	if id, is := before.ids[text]; is {
		c.ids[text], c.tables[id] = id, before.tables[id]
		return id, api.OK
	}
	t, e := compute()
	if e != api.OK {
		return 0, e
	}
	id := c.next
	c.next++
	c.ids[text], c.tables[id] = id, t
	return id, api.OK
}
