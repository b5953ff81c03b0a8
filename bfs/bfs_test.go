package bfs

import (
	"slices"
	"testing"

	"palmette/bitset"
	"palmette/sample"
)

func TestLayers(t *testing.T) {
	g := sample.Cycle(6)
	all := g.VertexSet()
	if l := Layers(g, 1, all); !slices.Equal(l, []bitset.Set{bitset.Of(1), bitset.Of(0, 2), bitset.Of(3, 5), bitset.Of(4)}) {
		t.Error(l)
	}
	if l := Layers(g, 1, all.Without(2)); len(l) != 5 || Union(l) != all.Without(2) {
		t.Error(l)
	}
	if Layers(g, 1, all.Without(1)) != nil || Reached(g, 0, bitset.Of(0, 1, 3)) != bitset.Of(0, 1) {
		t.Error("within")
	}
	if p := Descend(g, 4, Layers(g, 1, all)[:3]); !slices.Equal(p, []int{4, 3, 2, 1}) {
		t.Error(p)
	}
}
