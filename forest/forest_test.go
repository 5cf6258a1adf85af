package forest_test

import (
	"math"
	"slices"
	"testing"

	"tidewalk/api"
	"tidewalk/draws"
	"tidewalk/forest"
)

// P8.1

func TestNewHasNoVertices(t *testing.T) {
	for _, d := range []*draws.Draws{nil, new(draws.Draws), drawing(t, []uint32{5, 6})} {
		f := forest.New(d)
		if f == nil {
			t.Fatal("New = nil")
		}
		like(t, f, bare())
		adds(t, f, 9, 3, 4, api.OK)
		tells(t, f, 9, 1, 3, 4)
	}
}

func TestNewDrawsFromWhatItIsHanded(t *testing.T) {
	d := drawing(t, []uint32{7, 8, 9})
	f := forest.New(d)
	if d.Len() != 0 {
		t.Errorf("%d drawn for a forest without vertices", d.Len())
	}
	f.Add(1, 1, 1)
	if d.Len() == 0 {
		t.Error("nothing drawn for a vertex")
	}
	f.Add(2, 1, 1)
	many := d.Len()
	f.Link(1, 1, 2)
	if d.Len() == many {
		t.Error("nothing drawn for an edge")
	}
}

func TestAddedIsAlone(t *testing.T) {
	x := both{forest.New(nil), bare()}
	for n, v := range []int{5, 2, 9, 0, -4, 1} {
		x.add(t, v, 10*n, 100-n)
		x.like(t)
	}
	tells(t, x.f, 9, 1, 20, 98)
	holds(t, x.f, 9, 9)
	same(t, x.f, 9, 9, true)
	same(t, x.f, 9, 5, false)
	finds(t, x.f, 9, 15, nil)
	findsEdge(t, x.f, 9, 15, nil)
}

func TestAddOfOneThatIsThere(t *testing.T) {
	x := grown(t, nil, 3, [2]int{1, 2})
	x.mark(t, 2, 5)
	for v := 1; v <= 3; v++ {
		adds(t, x.f, v, 7, 7, api.ErrThere)
		adds(t, x.f, v, -1, 7, api.ErrThere)
		adds(t, x.f, v, 7, limit+1, api.ErrThere)
	}
	x.like(t)
}

// bounds are pairs of a sum and a rank, with whether a vertex may have them.
func bounds() map[[2]int]bool {
	m := map[[2]int]bool{}
	fit := []int{0, 1, 77, 1 << 32, limit - 1, limit}
	not := []int{-1, -2, limit + 1, limit + 2, 2 * limit, -limit, 1 << 62, math.MaxInt, math.MinInt}
	for _, n := range fit {
		for _, k := range fit {
			m[[2]int{n, k}] = true
		}
		for _, k := range not {
			m[[2]int{n, k}], m[[2]int{k, n}], m[[2]int{k, k}] = false, false, false
		}
	}
	return m
}

func TestAddWithinBounds(t *testing.T) {
	for pair, may := range bounds() {
		f := forest.New(nil)
		if !may {
			adds(t, f, 3, pair[0], pair[1], api.ErrArg)
			has(t, f, 3, false, false)
			tells(t, f, 3, 0, 0, -1)
			continue
		}
		adds(t, f, 3, pair[0], pair[1], api.OK)
		has(t, f, 3, true, false)
		tells(t, f, 3, 1, pair[0], pair[1])
	}
}

func TestSetWithinBounds(t *testing.T) {
	for pair, may := range bounds() {
		x := grown(t, nil, 3, [2]int{1, 2})
		want := api.OK
		if !may {
			want = api.ErrArg
		}
		sets(t, x.f, 2, pair[0], pair[1], want)
		if may {
			tells(t, x.f, 1, 2, 10+pair[0], min(99, pair[1]))
			x.p.set(2, pair[0], pair[1])
		}
		x.like(t)
		sets(t, x.f, 4, pair[0], pair[1], api.ErrNone)
	}
}

func TestSetChangesOneVertexAlone(t *testing.T) {
	for _, l := range drawLists(t) {
		x := several(t, l)
		x.mark(t, 3, 6)
		for v := 1; v <= 7; v++ {
			x.set(t, v, v*v, 500*v)
			x.like(t)
		}
		x.set(t, 3, 0, 0)
		x.set(t, 3, 0, 0)
		x.like(t)
		finds(t, x.f, 1, 2, []int{3})
	}
}

func TestDropOfAVertexAlone(t *testing.T) {
	x := grown(t, nil, 4)
	for _, v := range []int{2, 4, 1, 3} {
		x.mark(t, v, 9)
		x.drop(t, v)
		drops(t, x.f, v, api.ErrNone)
		x.like(t)
	}
}

func TestDropOfAVertexWithEdges(t *testing.T) {
	for _, edges := range shapes(7) {
		x := grown(t, nil, 7, edges...)
		for v := 1; v <= 7; v++ {
			drops(t, x.f, v, api.ErrState)
		}
		x.like(t)
		for k := range edges {
			x.cut(t, k+1)
			for v := 1; v <= 7; v++ {
				x.drop(t, v)
			}
			x.like(t)
		}
		for v := 1; v <= 7; v++ {
			drops(t, x.f, v, api.ErrNone)
		}
	}
}

func TestDropBehindTheLastCut(t *testing.T) {
	f := forest.New(nil)
	for v := 1; v <= 3; v++ {
		adds(t, f, v, v, v, api.OK)
	}
	links(t, f, 6, 2, 1, api.OK)
	links(t, f, 4, 2, 3, api.OK)
	cuts(t, f, 6, api.OK)
	drops(t, f, 2, api.ErrState)
	drops(t, f, 1, api.OK)
	cuts(t, f, 4, api.OK)
	drops(t, f, 2, api.OK)
	has(t, f, 2, false, false)
	tells(t, f, 3, 1, 3, 3)
}

// What is added or linked under an old number knows nothing of what had it: neither its numbers, nor its marks, nor its edges.
func TestNewUnderAnOldNumber(t *testing.T) {
	f := forest.New(nil)
	for v := 1; v <= 3; v++ {
		adds(t, f, v, 5, 5, api.OK)
	}
	links(t, f, 11, 1, 2, api.OK)
	links(t, f, 12, 2, 3, api.OK)
	marks(t, f, 2, 15, api.OK)
	marksEdge(t, f, 11, 15, api.OK)
	marksEdge(t, f, 12, 15, api.OK)
	cuts(t, f, 11, api.OK)
	cuts(t, f, 12, api.OK)
	drops(t, f, 2, api.OK)
	adds(t, f, 2, 7, 8, api.OK)
	tells(t, f, 2, 1, 7, 8)
	finds(t, f, 2, 15, nil)
	same(t, f, 1, 2, false)
	links(t, f, 12, 3, 2, api.OK)
	findsEdge(t, f, 2, 15, nil)
	finds(t, f, 3, 15, nil)
	tells(t, f, 3, 2, 12, 5)
	same(t, f, 1, 2, false)
	has(t, f, 11, false, false)
}

// Numbers are the caller's: those that the trees below give again, in whatever order, are not to be seen.
func TestNumbersAreTheCallers(t *testing.T) {
	x := both{forest.New(nil), bare()}
	for _, v := range []int{30, 10, 20, 40} {
		x.add(t, v, v, v)
	}
	x.link(t, 9, 10, 40)
	x.link(t, 5, 20, 40)
	x.drop(t, 30)
	x.add(t, 2, 2, 2)
	x.cut(t, 9)
	x.link(t, 1, 10, 2)
	x.mark(t, 2, 1)
	x.markEdge(t, 1, 2)
	x.like(t)
	x.cut(t, 1)
	x.drop(t, 10)
	x.drop(t, 2)
	x.add(t, 10, 1, 1)
	x.add(t, 30, 3, 3)
	x.link(t, 9, 30, 40)
	x.link(t, 77, 10, 40)
	x.markEdge(t, 77, 4)
	x.like(t)
	findsEdge(t, x.f, 20, 4, []int{77})
	holds(t, x.f, 20, 10, 20, 30, 40)
}

func TestVerticesNumbersOfAllKinds(t *testing.T) {
	for _, edges := range shapes(len(odd())) {
		x := both{forest.New(nil), bare()}
		for k, v := range odd() {
			x.add(t, v, k, 50-k)
			x.mark(t, v, uint8(k%16))
		}
		x.like(t)
		for k, ends := range edges {
			x.link(t, k+1, odd()[ends[0]-1], odd()[ends[1]-1])
		}
		x.like(t)
		for k := range edges {
			x.cut(t, (7*k)%len(edges)+1)
		}
		for k, v := range odd() {
			if k%2 == 0 {
				x.drop(t, v)
			}
		}
		x.like(t)
	}
}

// A vertex 0 is told as any other one: what parts it from nothing is the bool beside it.
func TestVertexZeroIsFound(t *testing.T) {
	f := forest.New(nil)
	adds(t, f, 0, 1, 1, api.OK)
	adds(t, f, 6, 1, 1, api.OK)
	links(t, f, 2, 0, 6, api.OK)
	if u, ok := f.FindVertex(6, 1); u != 0 || ok {
		t.Errorf("without a mark: %d, %v", u, ok)
	}
	marks(t, f, 0, 1, api.OK)
	if u, ok := f.FindVertex(6, 1); u != 0 || !ok {
		t.Errorf("marked: %d, %v", u, ok)
	}
	holds(t, f, 0, 0, 6)
}

// P8.2

func TestLinkJoins(t *testing.T) {
	f := forest.New(nil)
	for v := 1; v <= 5; v++ {
		adds(t, f, v, 1<<v, 50+v, api.OK)
	}
	links(t, f, 8, 4, 2, api.OK)
	has(t, f, 8, false, true)
	tells(t, f, 2, 2, 20, 52)
	links(t, f, 3, 2, 5, api.OK)
	links(t, f, 1000, 1, 4, api.OK)
	tells(t, f, 5, 4, 54, 51)
	tells(t, f, 3, 1, 8, 53)
	holds(t, f, 5, 1, 2, 4, 5)
	holds(t, f, 3, 3)
	for e, there := range map[int]bool{1: false, 3: true, 7: false, 8: true, 9: false, 1000: true} {
		if f.HasEdge(e) != there {
			t.Errorf("HasEdge(%d) = %v", e, !there)
		}
	}
}

func TestLinkOfOneTree(t *testing.T) {
	for _, edges := range shapes(6) {
		x := grown(t, nil, 8, edges...)
		for a := 1; a <= 6; a++ {
			for b := 1; b <= 6; b++ {
				links(t, x.f, 50, a, b, api.ErrState)
			}
		}
		links(t, x.f, 50, 7, 7, api.ErrState)
		x.like(t)
		x.link(t, 50, 7, 8)
		x.link(t, 51, 8, 7)
		x.link(t, 51, 8, 3)
		x.link(t, 52, 7, 5)
		x.like(t)
	}
}

func TestEdgesNumbersOfAllKinds(t *testing.T) {
	numbers := append(odd(), 1, 2, 3, 7)
	for _, edges := range shapes(len(numbers) + 1) {
		x := grown(t, nil, len(numbers)+1)
		for k, e := range numbers {
			ends := edges[k]
			want := api.OK
			if e < 1 {
				want = api.ErrArg
			}
			links(t, x.f, e, ends[0], ends[1], want)
			x.p.link(e, ends[0], ends[1])
			if want == api.OK {
				x.markEdge(t, e, uint8(k%15+1))
			}
		}
		x.like(t)
		for k, e := range numbers {
			if k%2 == 0 {
				x.cut(t, e)
				x.cut(t, e)
			}
		}
		x.like(t)
	}
}

// Which error is told where two and more are due.
func TestOrderOfLinksErrors(t *testing.T) {
	x := grown(t, nil, 4, [2]int{1, 2}, [2]int{2, 3})
	for _, c := range []struct {
		e, a, b int
		want    api.Errno
	}{
		{0, 1, 2, api.ErrArg}, {0, 1, 1, api.ErrArg}, {0, 9, 1, api.ErrArg}, {0, 1, 4, api.ErrArg}, {-1, 8, 9, api.ErrArg},
		{math.MinInt, 1, 4, api.ErrArg}, {-1 << 32, 1, 4, api.ErrArg}, {1 - 1<<32, 1, 4, api.ErrArg},
		{1, 1, 2, api.ErrThere}, {1, 1, 1, api.ErrThere}, {2, 9, 1, api.ErrThere}, {2, 1, 9, api.ErrThere}, {2, 8, 9, api.ErrThere}, {1, 1, 4, api.ErrThere},
		{3, 9, 1, api.ErrNone}, {3, 1, 9, api.ErrNone}, {3, 9, 9, api.ErrNone}, {3, 8, 9, api.ErrNone}, {3, 0, 4, api.ErrNone},
		{3, 1, 1, api.ErrState}, {3, 1, 3, api.ErrState}, {3, 3, 1, api.ErrState}, {math.MaxInt, 4, 4, api.ErrState},
	} {
		links(t, x.f, c.e, c.a, c.b, c.want)
		if want := x.p.link(c.e, c.a, c.b); want != c.want {
			t.Fatalf("the plain one: %d", want)
		}
	}
	x.like(t)
	x.link(t, 3, 4, 1)
	x.like(t)
}

func TestCutPartsATree(t *testing.T) {
	f := forest.New(nil)
	for v := 1; v <= 5; v++ {
		adds(t, f, v, 1<<v, 50+v, api.OK)
	}
	for v := 2; v <= 5; v++ {
		links(t, f, 10*v, v, v-1, api.OK)
	}
	tells(t, f, 3, 5, 62, 51)
	cuts(t, f, 40, api.OK)
	has(t, f, 40, false, false)
	cuts(t, f, 40, api.ErrNone)
	holds(t, f, 1, 1, 2, 3)
	holds(t, f, 5, 4, 5)
	tells(t, f, 2, 3, 14, 51)
	tells(t, f, 4, 2, 48, 54)
	same(t, f, 3, 4, false)
	same(t, f, 4, 5, true)
}

// Each edge is cut and linked again by its number: the other way about, as it was, and between other ends.
func TestCutAtEachEdgeAndLinkedAgain(t *testing.T) {
	for _, edges := range shapes(7) {
		for _, l := range drawLists(t) {
			x := grown(t, drawing(t, l), 7, edges...)
			for k, ends := range edges {
				a, b := ends[0], ends[1]
				x.cut(t, k+1)
				x.like(t)
				x.link(t, k+1, b, a)
				x.like(t)
				x.cut(t, k+1)
				left, right := x.p.tree(a), x.p.tree(b)
				x.link(t, k+1, right[len(right)-1], left[0])
				x.like(t)
				x.cut(t, k+1)
				x.link(t, k+1, a, b)
			}
			x.like(t)
		}
	}
}

func TestCutAllInOneOrderAndAnother(t *testing.T) {
	for _, edges := range shapes(8) {
		for first := range 7 {
			x := grown(t, nil, 8, edges...)
			for k := range 7 {
				// 3 and 7 have no common factor, so each edge has its turn.
				x.cut(t, (first+3*k)%7+1)
				x.like(t)
			}
		}
	}
}

// Vertices and edges have numbers apart: an edge is no vertex of its number, and goes without it.
func TestVerticesAndEdgesAreNumberedApart(t *testing.T) {
	f := forest.New(nil)
	for v := 1; v <= 4; v++ {
		adds(t, f, v, v, v, api.OK)
	}
	links(t, f, 1, 3, 4, api.OK)
	links(t, f, 9, 2, 4, api.OK)
	has(t, f, 1, true, true)
	has(t, f, 3, true, false)
	has(t, f, 9, false, true)
	marks(t, f, 1, 1, api.OK)
	marksEdge(t, f, 1, 2, api.OK)
	finds(t, f, 1, 2, nil)
	findsEdge(t, f, 4, 1, nil)
	drops(t, f, 1, api.OK)
	has(t, f, 1, false, true)
	findsEdge(t, f, 3, 2, []int{1})
	adds(t, f, 1, 8, 8, api.OK)
	adds(t, f, 9, 9, 9, api.OK)
	cuts(t, f, 1, api.OK)
	cuts(t, f, 9, api.OK)
	tells(t, f, 1, 1, 8, 8)
	tells(t, f, 9, 1, 9, 9)
}

// P8.3

// several has the trees 1 2 3 4, 5, and 6 7.
func several(t *testing.T, l []uint32) both {
	t.Helper()
	return grown(t, drawing(t, l), 7, [2]int{1, 2}, [2]int{3, 2}, [2]int{3, 4}, [2]int{7, 6})
}

func TestSeveralTrees(t *testing.T) {
	for _, l := range drawLists(t) {
		f := several(t, l).f
		for _, tree := range [][]int{{1, 2, 3, 4}, {5}, {6, 7}} {
			for _, v := range tree {
				holds(t, f, v, tree...)
				for u := range 9 {
					same(t, f, v, u, slices.Contains(tree, u))
				}
			}
		}
		for v, want := range map[int][3]int{1: {4, 100, 96}, 2: {4, 100, 96}, 4: {4, 100, 96}, 5: {1, 50, 95}, 6: {2, 130, 93}, 7: {2, 130, 93}} {
			tells(t, f, v, want[0], want[1], want[2])
		}
	}
}

func TestSumsAndRanksAtTheirBounds(t *testing.T) {
	for _, l := range drawLists(t) {
		f := forest.New(drawing(t, l))
		for v, pair := range [][2]int{{limit, limit}, {0, limit}, {limit, limit - 1}, {limit, 0}} {
			adds(t, f, v, pair[0], pair[1], api.OK)
		}
		tells(t, f, 0, 1, limit, limit)
		links(t, f, 1, 0, 1, api.OK)
		tells(t, f, 1, 2, limit, limit)
		links(t, f, 2, 2, 1, api.OK)
		tells(t, f, 0, 3, 2*limit, limit-1)
		links(t, f, 3, 2, 3, api.OK)
		tells(t, f, 1, 4, 3*limit, 0)
		cuts(t, f, 2, api.OK)
		tells(t, f, 1, 2, limit, limit)
		tells(t, f, 3, 2, 2*limit, 0)
		sets(t, f, 3, 0, limit, api.OK)
		tells(t, f, 2, 2, limit, limit-1)
	}
}

func TestWrongNumbersAreNone(t *testing.T) {
	x := grown(t, nil, 6, [2]int{1, 2}, [2]int{2, 3}, [2]int{5, 4})
	x.cut(t, 3)
	x.drop(t, 5)
	x.drop(t, 6)
	gone := append(odd(), 5, 6, 7, 8, 1+1<<8, 1+1<<16, 1+1<<24, 1<<31, 1<<31+1)
	for _, v := range gone {
		has(t, x.f, v, false, false)
		drops(t, x.f, v, api.ErrNone)
		sets(t, x.f, v, 77, 77, api.ErrNone)
		sets(t, x.f, v, -1, 77, api.ErrNone)
		sets(t, x.f, v, 77, limit+1, api.ErrNone)
		marks(t, x.f, v, 3, api.ErrNone)
		for _, u := range []int{1, 4, v, 5, 0} {
			links(t, x.f, 9, v, u, api.ErrNone)
			links(t, x.f, 9, u, v, api.ErrNone)
			same(t, x.f, v, u, false)
			same(t, x.f, u, v, false)
		}
		tells(t, x.f, v, 0, 0, -1)
		holds(t, x.f, v)
		for _, bits := range masks() {
			finds(t, x.f, v, bits, nil)
			findsEdge(t, x.f, v, bits, nil)
		}
	}
	for _, e := range append(gone, 3, 4) {
		if x.f.HasEdge(e) {
			t.Errorf("HasEdge(%d)", e)
		}
		cuts(t, x.f, e, api.ErrNone)
		marksEdge(t, x.f, e, 3, api.ErrNone)
	}
	x.like(t)
	x.add(t, 5, 1, 1)
	x.add(t, 6, 2, 2)
	x.link(t, 3, 4, 6)
	x.like(t)
}

// P8.4

func TestMarksOfVertices(t *testing.T) {
	x := several(t, nil)
	for v := 1; v <= 7; v++ {
		for _, bits := range []uint8{1, 2, 4, 8, 15, 0, 6, 9} {
			x.mark(t, v, bits)
			x.like(t)
		}
	}
	for v := 1; v <= 7; v++ {
		x.mark(t, v, 0)
		x.like(t)
	}
	finds(t, x.f, 1, 15, nil)
}

func TestMarksOfEdges(t *testing.T) {
	x := several(t, nil)
	for e := 1; e <= 4; e++ {
		for _, bits := range []uint8{1, 2, 4, 8, 15, 0, 6, 9} {
			x.markEdge(t, e, bits)
			x.like(t)
		}
	}
	for e := 1; e <= 4; e++ {
		x.markEdge(t, e, 0)
		x.like(t)
	}
	findsEdge(t, x.f, 1, 15, nil)
}

// Marks take the place of those ahead of them: their bits do not gather.
func TestMarksDoNotGather(t *testing.T) {
	f := several(t, nil).f
	marks(t, f, 2, 5, api.OK)
	marks(t, f, 2, 8, api.OK)
	finds(t, f, 4, 7, nil)
	finds(t, f, 4, 12, []int{2})
	marksEdge(t, f, 3, 5, api.OK)
	marksEdge(t, f, 3, 2, api.OK)
	findsEdge(t, f, 1, 13, nil)
	findsEdge(t, f, 1, 2, []int{3})
}

func TestMarksOfVerticesAndEdgesAreApart(t *testing.T) {
	f := several(t, nil).f
	marks(t, f, 2, 3, api.OK)
	marksEdge(t, f, 2, 12, api.OK)
	finds(t, f, 4, 12, nil)
	finds(t, f, 4, 15, []int{2})
	findsEdge(t, f, 4, 3, nil)
	findsEdge(t, f, 4, 15, []int{2})
	marks(t, f, 2, 0, api.OK)
	finds(t, f, 4, 15, nil)
	findsEdge(t, f, 4, 4, []int{2})
	tells(t, f, 4, 4, 100, 96)
}

func TestMarkOfBitsAbove(t *testing.T) {
	x := several(t, nil)
	x.mark(t, 2, 5)
	x.markEdge(t, 2, 10)
	for _, bits := range []uint8{16, 17, 31, 32, 64, 128, 0xf0, 254, 255} {
		// Also of numbers that are none: of two errors the one that is named first.
		for _, n := range append(odd(), 1, 2, 7, 8) {
			marks(t, x.f, n, bits, api.ErrArg)
			marksEdge(t, x.f, n, bits, api.ErrArg)
		}
	}
	x.like(t)
}

// No vertex and no edge has bits above 15, so none is found by them; a bit below is found beside them.
func TestFindByBitsAbove(t *testing.T) {
	f := several(t, nil).f
	for v := 1; v <= 7; v++ {
		marks(t, f, v, 15, api.OK)
	}
	for e := 1; e <= 4; e++ {
		marksEdge(t, f, e, 15, api.OK)
	}
	for v := 1; v <= 7; v++ {
		for _, bits := range []uint8{0, 16, 32, 64, 128, 0x50, 0xf0} {
			finds(t, f, v, bits, nil)
			findsEdge(t, f, v, bits, nil)
		}
	}
	finds(t, f, 7, 0xf1, []int{6, 7})
	findsEdge(t, f, 7, 0x88, []int{4})
	finds(t, f, 5, 0xff, []int{5})
	findsEdge(t, f, 5, 0xff, nil)
}

func TestMarksGoWithTheirTrees(t *testing.T) {
	for _, edges := range shapes(8) {
		x := grown(t, nil, 8, edges...)
		x.mark(t, 8, 1)
		x.mark(t, 1, 2)
		x.mark(t, 4, 5)
		x.markEdge(t, 7, 1)
		x.markEdge(t, 1, 2)
		x.markEdge(t, 3, 12)
		x.like(t)
		for k, ends := range edges {
			x.cut(t, k+1)
			x.like(t)
			x.link(t, k+1, ends[1], ends[0])
			x.like(t)
		}
		// Marks go with their edge, and an edge has none at first.
		findsEdge(t, x.f, 1, 15, nil)
		finds(t, x.f, 1, 4, []int{4})
	}
}

func TestVerticesOfATree(t *testing.T) {
	for _, edges := range shapes(40) {
		f := grown(t, nil, 40, edges...).f
		var all []int
		for v := 1; v <= 40; v++ {
			all = append(all, v)
		}
		for v := range 40 {
			holds(t, f, v+1, all...)
		}
		cuts(t, f, 39, api.OK)
		holds(t, f, 40, 40)
		holds(t, f, 1, all[:39]...)
	}
}

func TestWalkThatIsLeft(t *testing.T) {
	f := grown(t, nil, 9, bush(9)...).f
	whole := slices.Collect(f.Vertices(4))
	for many := 1; many <= 9; many++ {
		var l []int
		f.Vertices(4)(func(v int) bool {
			l = append(l, v)
			return len(l) < many
		})
		if !slices.Equal(l, whole[:many]) {
			t.Errorf("left behind %d: %v", many, l)
		}
	}
	holds(t, f, 4, 1, 2, 3, 4, 5, 6, 7, 8, 9)
}

func TestWalksInOneAnother(t *testing.T) {
	f := several(t, nil).f
	count := map[[2]int]int{}
	for v := range f.Vertices(6) {
		for u := range f.Vertices(7) {
			count[[2]int{v, u}]++
		}
	}
	if len(count) != 4 || count[[2]int{6, 6}] != 1 || count[[2]int{6, 7}] != 1 || count[[2]int{7, 6}] != 1 || count[[2]int{7, 7}] != 1 {
		t.Error(count)
	}
}

// Nothing may be changed on the way: if it is, the walk ends all the same, and the changes hold.
func TestWalkOnWhichAllIsChangedEnds(t *testing.T) {
	f := grown(t, nil, 9, bush(9)...).f
	steps := 0
	for range f.Vertices(4) {
		if steps++; steps > 9 {
			t.Fatal("a walk of more vertices than the tree had")
		}
		for n := range 10 {
			f.Cut(n)
			f.Drop(n)
			f.Add(n+100, 1, 1)
			f.Link(n+50, n+99, n+100)
		}
	}
	for v := range 10 {
		f.Drop(v)
		has(t, f, v, false, false)
	}
	tells(t, f, 104, 10, 10, 1)
}

func TestNilForest(t *testing.T) {
	var f *forest.Forest
	for _, n := range append(odd(), 1, 2) {
		for _, k := range []int{0, 5, -1, limit + 1} {
			adds(t, f, n, 0, k, api.ErrNil)
			adds(t, f, n, k, 0, api.ErrNil)
			sets(t, f, n, 0, k, api.ErrNil)
			sets(t, f, n, k, 0, api.ErrNil)
		}
		drops(t, f, n, api.ErrNil)
		links(t, f, n, n, n, api.ErrNil)
		links(t, f, 1, 1, n, api.ErrNil)
		cuts(t, f, n, api.ErrNil)
		has(t, f, n, false, false)
		same(t, f, n, n, false)
		tells(t, f, n, 0, 0, -1)
		holds(t, f, n)
		for _, bits := range masks() {
			marks(t, f, n, bits, api.ErrNil)
			marksEdge(t, f, n, bits, api.ErrNil)
			finds(t, f, n, bits, nil)
			findsEdge(t, f, n, bits, nil)
		}
	}
}

func TestForestThatNewDidNotMake(t *testing.T) {
	var held struct{ f forest.Forest }
	for _, f := range []*forest.Forest{new(forest.Forest), {}, &held.f} {
		x := both{f, bare()}
		x.like(t)
		x.drop(t, 1)
		x.cut(t, 1)
		x.set(t, 1, 1, 1)
		x.mark(t, 1, 1)
		x.mark(t, 1, 16)
		x.markEdge(t, 1, 1)
		x.markEdge(t, 1, 16)
		x.link(t, 1, 1, 2)
		for n := range 6 {
			x.add(t, n, n, n)
			x.link(t, n, n-1, n)
		}
		x.like(t)
		x.cut(t, 3)
		x.markEdge(t, 2, 3)
		x.mark(t, 2, 3)
		x.like(t)
	}
}

// P8.5

// pool is the numbers of which a step takes vertices and edges: small ones, which meet often, and odd ones.
func pool() []int { return union(odd(), around()) }

// step does one call or another to a forest and to the plain one.
func step(t *testing.T, x both, next func(int) int) {
	t.Helper()
	numbers := pool()
	v, u, e := numbers[next(len(numbers))], numbers[next(len(numbers))], numbers[next(len(numbers))]
	values := []int{0, 1, next(200), next(200), next(200), limit - 1, limit, limit + 1, -1}
	sum, least := values[next(len(values))], values[next(len(values))]
	switch next(12) {
	case 0, 1:
		x.add(t, v, sum, least)
	case 2:
		x.drop(t, v)
	case 3, 4, 5, 6:
		x.link(t, e, v, u)
	case 7, 8:
		x.cut(t, e)
	case 9:
		x.set(t, v, sum, least)
	case 10:
		x.mark(t, v, uint8(next(18)))
	case 11:
		x.markEdge(t, e, uint8(next(18)))
	}
}

func TestHeldAgainstPlainLists(t *testing.T) {
	for what, l := range drawLists(t) {
		t.Run(what, func(t *testing.T) {
			for seed := range uint64(4) {
				next := shaken(seed*1000 + 7)
				x := grown(t, drawing(t, l), 9, bush(9)...)
				for k := range 600 {
					step(t, x, next)
					if k%20 == 0 {
						x.like(t)
					}
				}
				x.like(t)
			}
		})
	}
}

// The steps reach what they are for: trees of some vertices, and marked ones in them.
func TestStepsMakeTrees(t *testing.T) {
	x := grown(t, nil, 9, bush(9)...)
	next := shaken(7)
	great, vertices, edges := 0, 0, 0
	for range 2000 {
		step(t, x, next)
		for _, v := range pool() {
			great = max(great, x.f.Size(v))
			if _, ok := x.f.FindVertex(v, 15); ok {
				vertices++
			}
			if _, ok := x.f.FindEdge(v, 15); ok {
				edges++
			}
		}
	}
	if great < 6 || vertices < 1000 || edges < 1000 {
		t.Errorf("trees of up to %d vertices, %d marked vertices found, %d edges", great, vertices, edges)
	}
}

// Whatever is drawn, the answers are the same ones but for which marked one is told, and the order of a walk.
func TestDrawsTurnNothing(t *testing.T) {
	var fs []*forest.Forest
	for _, l := range drawLists(t) {
		fs = append(fs, forest.New(drawing(t, l)))
	}
	fs = append(fs, forest.New(nil), new(forest.Forest), forest.New(new(draws.Draws)))
	p := bare()
	for _, f := range fs {
		p = bare()
		next := shaken(99)
		for range 800 {
			step(t, both{f, p}, next)
		}
	}
	for _, f := range fs {
		like(t, f, p)
	}
}

// traced is all that draws could turn of what a forest tells of some steps: the walks as they are gone, and which marked ones are told.
func traced(t *testing.T, f *forest.Forest) []int {
	t.Helper()
	var l []int
	next := shaken(31)
	x := both{f, bare()}
	for range 800 {
		step(t, x, next)
		v := pool()[next(len(pool()))]
		l = slices.AppendSeq(l, f.Vertices(v))
		u, _ := f.FindVertex(v, 15)
		e, _ := f.FindEdge(v, 15)
		l = append(l, u, e)
	}
	return l
}

// Draws of one list are one, and without draws all is as from a list of none.
func TestDrawsOfOneListAreOne(t *testing.T) {
	for what, l := range drawLists(t) {
		if !slices.Equal(traced(t, forest.New(drawing(t, l))), traced(t, forest.New(drawing(t, l)))) {
			t.Errorf("%s: not the same twice", what)
		}
	}
	none := traced(t, forest.New(drawing(t, nil)))
	for _, f := range []*forest.Forest{forest.New(nil), forest.New(new(draws.Draws)), new(forest.Forest)} {
		if !slices.Equal(traced(t, f), none) {
			t.Error("without draws: not as from no numbers")
		}
	}
}

func TestManyVertices(t *testing.T) {
	const many = 10000
	for what, edges := range shapes(many) {
		for _, d := range []*draws.Draws{nil, drawing(t, nil), drawing(t, slices.Repeat([]uint32{9}, draws.Most))} {
			f := forest.New(d)
			// Numbers are spread over all of 64 bits, and turned about against those of the trees below.
			at := func(v int) int { return (many - v) * 0x123456789abc * (1 - v%2*2) }
			for v := 1; v <= many; v++ {
				adds(t, f, at(v), v, many-v, api.OK)
			}
			for k, ends := range edges {
				links(t, f, 3*k+1, at(ends[0]), at(ends[1]), api.OK)
			}
			const sum = many * (many + 1) / 2
			tells(t, f, at(many/2), many, sum, 0)
			marks(t, f, at(many/3), 4, api.OK)
			for k, ends := range edges {
				a, b := at(ends[0]), at(ends[1])
				cuts(t, f, 3*k+1, api.OK)
				if f.Size(a)+f.Size(b) != many || f.Sum(a)+f.Sum(b) != sum || min(f.Least(a), f.Least(b)) != 0 || f.Same(a, b) {
					t.Fatalf("%s: cut at %d", what, k)
				}
				links(t, f, 3*k+1, b, a, api.OK)
				finds(t, f, b, 4, []int{at(many / 3)})
				marksEdge(t, f, 3*k+1, 8, api.OK)
				findsEdge(t, f, at(1), 8, []int{3*k + 1})
				marksEdge(t, f, 3*k+1, 0, api.OK)
			}
			walk := slices.Sorted(f.Vertices(at(7)))
			if len(walk) != many || len(slices.Compact(walk)) != many {
				t.Fatalf("%s: a walk of %d vertices", what, len(walk))
			}
			for k := range edges {
				cuts(t, f, 3*k+1, api.OK)
			}
			for v := 1; v <= many; v++ {
				tells(t, f, at(v), 1, v, many-v)
				drops(t, f, at(v), api.OK)
			}
		}
	}
}

// The rules

// With an error nothing has changed, and nothing was drawn.
func TestErrorsChangeNothing(t *testing.T) {
	d := drawing(t, []uint32{3, 1, 2})
	x := grown(t, d, 6, path(5)...)
	x.mark(t, 2, 5)
	x.markEdge(t, 2, 5)
	drawn := d.Len()
	for range 3 {
		adds(t, x.f, 1, 1, 1, api.ErrThere)
		adds(t, x.f, 7, -1, 1, api.ErrArg)
		adds(t, x.f, 7, 1, limit+1, api.ErrArg)
		links(t, x.f, 0, 1, 6, api.ErrArg)
		links(t, x.f, 1, 1, 6, api.ErrThere)
		links(t, x.f, 9, 6, 7, api.ErrNone)
		links(t, x.f, 9, 0, 6, api.ErrNone)
		links(t, x.f, 9, 1, 5, api.ErrState)
		links(t, x.f, 9, 6, 6, api.ErrState)
		drops(t, x.f, 3, api.ErrState)
		drops(t, x.f, 7, api.ErrNone)
		cuts(t, x.f, 5, api.ErrNone)
		sets(t, x.f, 7, 1, 1, api.ErrNone)
		sets(t, x.f, 1, -1, 1, api.ErrArg)
		sets(t, x.f, 1, 1, limit+1, api.ErrArg)
		marks(t, x.f, 2, 16, api.ErrArg)
		marks(t, x.f, 7, 1, api.ErrNone)
		marksEdge(t, x.f, 2, 16, api.ErrArg)
		marksEdge(t, x.f, 5, 1, api.ErrNone)
		x.like(t)
	}
	if d.Len() != drawn {
		t.Errorf("%d drawn by calls that erred", d.Len()-drawn)
	}
	x.add(t, 7, 1, 1)
	x.link(t, 9, 7, 6)
	x.like(t)
}

func TestForestsKnowNothingOfOneAnother(t *testing.T) {
	a, b, c := several(t, nil), several(t, []uint32{1, 2}), several(t, nil)
	a.cut(t, 2)
	a.drop(t, 5)
	a.mark(t, 1, 15)
	a.markEdge(t, 1, 15)
	a.set(t, 2, 0, 0)
	b.like(t)
	b.link(t, 5, 5, 1)
	b.link(t, 6, 5, 7)
	a.like(t)
	b.like(t)
	c.like(t)
	for v := range b.f.Vertices(1) {
		a.f.Drop(v)
		c.mark(t, v, 3)
	}
	b.like(t)
	c.like(t)
}

// Forests that one object's draws shape are apart too.
func TestForestsInTurns(t *testing.T) {
	d := drawing(t, []uint32{5, 5, 5})
	xs := []both{grown(t, d, 2), grown(t, d, 2), grown(t, nil, 2), grown(t, drawing(t, nil), 2)}
	next := shaken(17)
	for k := range 2400 {
		step(t, xs[k%4], next)
		if k%120 == 0 {
			for _, x := range xs {
				x.like(t)
			}
		}
	}
	for _, x := range xs {
		x.like(t)
	}
}

func TestExamples(t *testing.T) {
	f := forest.New(nil)
	adds(t, f, 1, 5, 9, api.OK)
	adds(t, f, 2, 6, 3, api.OK)
	links(t, f, 7, 1, 2, api.OK)
	tells(t, f, 1, 2, 11, 3)
	tells(t, f, 2, 2, 11, 3)
	links(t, f, 8, 2, 1, api.ErrState)
	drops(t, f, 1, api.ErrState)

	marks(t, f, 2, 1, api.OK)
	finds(t, f, 1, 1, []int{2})
	finds(t, f, 1, 2, nil)
	marksEdge(t, f, 7, 2, api.OK)
	findsEdge(t, f, 2, 2, []int{7})
	cuts(t, f, 7, api.OK)
	same(t, f, 1, 2, false)
	tells(t, f, 1, 1, 5, 9)
	drops(t, f, 1, api.OK)
	tells(t, f, 1, 0, 0, -1)
}
