package tour

import "tidewalk/treap"

// The tour of a tree goes round it along its edges: a sequence in which each vertex is one item, and each edge two, where it is gone along there and where it is gone back; what stands between these two is the tree on the edge's far side. It is a ring, and where its sequence begins tells nothing.

// edge is what an edge has: its ends, as they were linked, and its two items.
type edge struct {
	a, b        int
	there, back int32
}

// part is which vertex or which edge an item is; the other number is 0.
type part struct {
	vertex, edge int32
}

// Marks of vertices and of edges have bits of their own in the items' marks, so that each are found apart; bits above 15 are none of either.
func vertexMark(bits uint8) uint8 { return bits & allMarks }
func edgeMark(bits uint8) uint8   { return bits << 4 }

// item is a vertex' item; 0, if there is no vertex v.
func (f *Forest) item(v int) int32 {
	if f == nil || !small(v) {
		return 0
	}
	at := f.vertices.At(int32(v))
	if at == nil {
		return 0
	}
	return *at
}

// edge is nil, if there is no edge n.
func (f *Forest) edge(n int) *edge {
	if f == nil || !small(n) {
		return nil
	}
	return f.edges.At(int32(n))
}

// small says whether a number is one of 32 bits: a greater one must not come to be another one's by what is cut off.
func small(n int) bool { return n == int(int32(n)) }

// total is what a tree's vertices have together; all 0, if there is no vertex v.
func (f *Forest) total(v int) treap.Value {
	item := f.item(v)
	if item == 0 {
		return treap.Value{}
	}
	return f.items.Total(item)
}

// find is which part of a vertex' tree has a bit of mask; none, if there is none.
func (f *Forest) find(v int, mask uint8) part {
	item := f.item(v)
	if item == 0 {
		return part{}
	}
	return f.parts[f.items.Find(item, mask)]
}

// listed is the vertices of a tree as it is now.
func (f *Forest) listed(v int) []int {
	item := f.item(v)
	if item == 0 {
		return nil
	}
	l := make([]int, 0, f.Size(v))
	for i := range f.items.Walk(item) {
		if u := f.parts[i].vertex; u != 0 {
			l = append(l, int(u))
		}
	}
	return l
}

// newEdge is the number of an edge whose items stand alone yet.
func (f *Forest) newEdge(a, b int) int32 {
	// An edge counts for nothing in its tree, so its Least is that of none.
	none := treap.Value{Least: treap.MaxLeast}
	x := edge{a: a, b: b, there: f.items.Make(none), back: f.items.Make(none)}
	n := f.edges.Take(x)
	f.parts[x.there] = part{edge: n}
	f.parts[x.back] = part{edge: n}
	return n
}

// dropItem lets an item go that stands alone.
func (f *Forest) dropItem(item int32) {
	delete(f.parts, item)
	f.items.Free(item)
}

func (f *Forest) markItem(item int32, mark uint8) {
	x, _ := f.items.Get(item)
	x.Mark = mark
	f.items.Set(item, x)
}

// turn makes an item the first one of its tour.
func (f *Forest) turn(item int32) {
	first := f.items.First(item)
	f.items.Cut(item)
	// If it was the first one already, nothing was cut off, and there is nothing to join.
	f.items.Join(item, first)
}

// splice makes one tour of two: that of i, and behind it, there and back, that of j.
func (f *Forest) splice(i, j int32, x *edge) {
	f.turn(i)
	f.turn(j)
	f.items.Join(i, x.there)
	f.items.Join(i, j)
	f.items.Join(i, x.back)
}

// unsplice makes two tours of one, and leaves the edge's items alone. Both tours have an end of the edge at least, so neither item is the last one where it is cut behind.
func (f *Forest) unsplice(x *edge) {
	f.turn(x.there)
	f.items.Cut(x.back)
	f.items.Cut(f.items.Next(x.there))
	f.items.Cut(f.items.Next(x.back))
}
