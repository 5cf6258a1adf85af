package levels

import (
	"maps"
	"slices"
	"testing"
)

// keptIsRight says that each forest has just the tree edges of its level and those above, and, above level 0, their ends alone; that loose edges stand at both ends at their level; and that a search finds all that it should, and no more.
func keptIsRight(t *testing.T, g *Graph) {
	t.Helper()
	many := 0
	for e, x := range g.edges {
		for level, f := range g.forests {
			if f.HasEdge(e) != (x.tree && x.level >= level) {
				t.Fatalf("edge %d %v: HasEdge at level %d: %v", e, x, level, f.HasEdge(e))
			}
			for _, v := range x.ends() {
				if g.loose.Has(v, level, e) != (!x.tree && x.level == level) {
					t.Fatalf("edge %d %v at %d: Has at level %d: %v", e, x, v, level, g.loose.Has(v, level, e))
				}
			}
		}
		if !x.tree {
			many += 2
		}
	}
	if g.loose.Len() != many {
		t.Fatalf("%d ends of loose edges: want %d", g.loose.Len(), many)
	}
	for v := 1; v <= g.most; v++ {
		for level, f := range g.forests {
			if level > 0 && f.Has(v) != (f.Size(v) > 1) {
				t.Fatalf("%d is kept alone at level %d", v, level)
			}
			if f.Has(v) {
				marksAreRight(t, g, v, level)
			}
		}
	}
}

func marksAreRight(t *testing.T, g *Graph, v, level int) {
	t.Helper()
	f := g.forests[level]
	tree := slices.Collect(f.Vertices(v))
	own := false
	for _, x := range g.edges {
		own = own || x.tree && x.level == level && slices.Contains(tree, x.a)
	}
	hung := slices.ContainsFunc(tree, func(u int) bool { return g.loose.Many(u, level) > 0 })
	e, ok := f.FindEdge(v, 15)
	if ok != own || ok && g.edges[e].level != level {
		t.Fatalf("of %d at level %d: edge %d %v, %v: want %v", v, level, e, g.edges[e], ok, own)
	}
	u, ok := f.FindVertex(v, 15)
	if ok != hung || ok && g.loose.Many(u, level) == 0 {
		t.Fatalf("of %d at level %d: vertex %d, %v: want %v", v, level, u, ok, hung)
	}
}

// What is kept is what there is, and no more.
func TestKeptIsWhatThereIs(t *testing.T) {
	seed := uint64(3)
	next := func(n int) int {
		seed = seed*6364136223846793005 + 1442695040888963407
		return int((seed >> 33) % uint64(n))
	}
	g, _ := New(nil, 20)
	for range 20 {
		g.Vertex(1, 1)
	}
	high := 0
	for range 3000 {
		v := next(20) + 1
		switch next(10) {
		case 0:
			g.Drop(v)
		case 1:
			g.Vertex(1, 1)
		case 2, 3, 4, 5:
			g.Insert(v, v+1-next(3))
		case 6:
			g.Insert(v, next(20)+1)
		default:
			g.Delete(next(30) + 1)
		}
		keptIsRight(t, g)
		for _, x := range g.edges {
			high = max(high, x.level)
		}
	}
	if high < 2 {
		t.Errorf("edges rose to level %d alone", high)
	}
	for _, e := range slices.Sorted(maps.Keys(g.edges)) {
		g.Delete(e)
		keptIsRight(t, g)
	}
	for v := range 21 {
		g.Drop(v)
	}
	for level, f := range g.forests {
		for v := 1; v <= 20; v++ {
			if f.Has(v) {
				t.Errorf("%d is kept at level %d when all is gone", v, level)
			}
		}
	}
	if vertices, edges := g.Len(); vertices != 0 || edges != 0 || g.loose.Len() != 0 {
		t.Errorf("%d vertices, %d edges, %d ends when all is gone", vertices, edges, g.loose.Len())
	}
}
