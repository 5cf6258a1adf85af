package tour

import "testing"

// Each item that there is stands in the map as what it is, and what is gone is gone from it.
func TestPartsAreThoseOfTheItems(t *testing.T) {
	seed := uint64(3)
	next := func(n int) int {
		seed = seed*6364136223846793005 + 1442695040888963407
		return int((seed >> 33) % uint64(n))
	}
	f := New(nil)
	for range 5000 {
		switch v := next(40) + 1; next(4) {
		case 0:
			if f.vertices.Len() < 40 {
				f.Vertex(1, 1)
			}
		case 1:
			f.Link(v, next(40)+1)
		case 2:
			f.Cut(v)
		case 3:
			f.Drop(v)
		}
		partsAreRight(t, f)
	}
	for n := range 41 {
		f.Cut(n)
	}
	for v := range 41 {
		f.Drop(v)
	}
	if len(f.parts) != 0 || f.items.Len() != 0 || f.edges.Len() != 0 || f.vertices.Len() != 0 {
		t.Errorf("%d parts, %d items, %d edges, %d vertices when all is gone", len(f.parts), f.items.Len(), f.edges.Len(), f.vertices.Len())
	}
}

func partsAreRight(t *testing.T, f *Forest) {
	t.Helper()
	if n := f.vertices.Len() + 2*f.edges.Len(); len(f.parts) != n || f.items.Len() != n {
		t.Fatalf("%d parts, %d items: want %d", len(f.parts), f.items.Len(), n)
	}
	for v := range f.vertices.Slots() {
		if i := f.item(v + 1); i != 0 && f.parts[i] != (part{vertex: int32(v + 1)}) {
			t.Fatalf("the item of the vertex %d is %v", v+1, f.parts[i])
		}
	}
	for n := range f.edges.Slots() {
		x, want := f.edge(n+1), part{edge: int32(n + 1)}
		if x != nil && (f.parts[x.there] != want || f.parts[x.back] != want) {
			t.Fatalf("the items of the edge %d are %v, %v", n+1, f.parts[x.there], f.parts[x.back])
		}
	}
}
