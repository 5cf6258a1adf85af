package tour_test

import (
	"math"
	"slices"
	"testing"

	"tidewalk/api"
	"tidewalk/arena"
	"tidewalk/draws"
	"tidewalk/tour"
)

// P7.1

func TestNewHasNoVertices(t *testing.T) {
	for _, d := range []*draws.Draws{nil, new(draws.Draws), drawing(t, []uint32{5, 6})} {
		f := tour.New(d)
		if f == nil {
			t.Fatal("New = nil")
		}
		like(t, f, &plain{})
		makes(t, f, 3, 4, 1)
		tells(t, f, 1, 1, 3, 4)
	}
}

func TestNewDrawsFromWhatItIsHanded(t *testing.T) {
	d := drawing(t, []uint32{7, 8, 9})
	f := tour.New(d)
	if d.Len() != 0 {
		t.Errorf("%d drawn for a forest without vertices", d.Len())
	}
	f.Vertex(1, 1)
	if d.Len() == 0 {
		t.Error("nothing drawn for a vertex")
	}
}

func TestVertexIsAlone(t *testing.T) {
	x := both{tour.New(nil), &plain{}}
	for n := range 8 {
		x.vertex(t, 10*n, 100-n)
		x.like(t)
	}
	tells(t, x.f, 5, 1, 40, 96)
	holds(t, x.f, 5, 5)
	same(t, x.f, 5, 5, true)
	same(t, x.f, 5, 6, false)
	finds(t, x.f, 5, 15, nil)
	findsEdge(t, x.f, 5, 15, nil)
}

func TestDropOfAVertexAlone(t *testing.T) {
	x := grown(t, nil, 4)
	for _, v := range []int{2, 4, 1, 3} {
		x.mark(t, v, 9)
		x.drop(t, v)
		drops(t, x.f, v, api.ErrNone)
		x.like(t)
	}
}

func TestDropOfAVertexWithEdges(t *testing.T) {
	for _, edges := range shapes(7) {
		x := grown(t, nil, 7, edges...)
		for v := 1; v <= 7; v++ {
			drops(t, x.f, v, api.ErrState)
		}
		x.like(t)
		for n := range edges {
			x.cut(t, n+1)
			for v := 1; v <= 7; v++ {
				x.drop(t, v)
			}
			x.like(t)
		}
		for v := 1; v <= 7; v++ {
			drops(t, x.f, v, api.ErrNone)
		}
	}
}

func TestDropBehindTheLastCut(t *testing.T) {
	f := tour.New(nil)
	for v := 1; v <= 3; v++ {
		makes(t, f, v, v, v)
	}
	links(t, f, 2, 1, 1)
	links(t, f, 2, 3, 2)
	cuts(t, f, 1, api.OK)
	drops(t, f, 2, api.ErrState)
	drops(t, f, 1, api.OK)
	cuts(t, f, 2, api.OK)
	drops(t, f, 2, api.OK)
	tells(t, f, 3, 1, 3, 3)
}

func TestLinkTellsItsNumber(t *testing.T) {
	x := grown(t, nil, 5)
	links(t, x.f, 4, 2, 1)
	links(t, x.f, 2, 5, 2)
	links(t, x.f, 1, 4, 3)
	ends(t, x.f, 1, 4, 2)
	ends(t, x.f, 2, 2, 5)
	ends(t, x.f, 3, 1, 4)
	holds(t, x.f, 5, 1, 2, 4, 5)
	holds(t, x.f, 3, 3)
}

func TestLinkOfOneTree(t *testing.T) {
	for _, edges := range shapes(6) {
		x := grown(t, nil, 8, edges...)
		for a := 1; a <= 6; a++ {
			for b := 1; b <= 6; b++ {
				linksNot(t, x.f, a, b, api.ErrThere)
			}
		}
		linksNot(t, x.f, 7, 7, api.ErrThere)
		x.like(t)
		x.link(t, 7, 8)
		x.link(t, 8, 7)
		x.link(t, 8, 3)
		x.link(t, 7, 5)
		x.like(t)
	}
}

func TestCutPartsATree(t *testing.T) {
	f := tour.New(nil)
	for v := 1; v <= 5; v++ {
		makes(t, f, 1<<v, 50+v, v)
	}
	for v := 2; v <= 5; v++ {
		links(t, f, v-1, v, v-1)
	}
	tells(t, f, 3, 5, 62, 51)
	cuts(t, f, 3, api.OK)
	endsNot(t, f, 3)
	cuts(t, f, 3, api.ErrNone)
	holds(t, f, 1, 1, 2, 3)
	holds(t, f, 5, 4, 5)
	tells(t, f, 2, 3, 14, 51)
	tells(t, f, 4, 2, 48, 54)
	ends(t, f, 4, 4, 5)
	same(t, f, 3, 4, false)
}

// Each edge is cut and linked again, once as it was and once the other way about, and once between other ends.
func TestCutAtEachEdgeAndLinkedAgain(t *testing.T) {
	for _, edges := range shapes(9) {
		for _, l := range drawLists(t) {
			x := grown(t, drawing(t, l), 9, edges...)
			for k, e := range edges {
				a, b := e[0], e[1]
				for _, ends := range [][2]int{{b, a}, {a, b}} {
					x.cut(t, k+1)
					x.like(t)
					x.link(t, ends[0], ends[1])
					x.like(t)
				}
				x.cut(t, k+1)
				left, right := x.p.tree(a), x.p.tree(b)
				x.link(t, right[len(right)-1], left[0])
				x.like(t)
				x.cut(t, k+1)
				x.link(t, a, b)
			}
			x.like(t)
		}
	}
}

func TestCutAllInOneOrderAndAnother(t *testing.T) {
	for _, edges := range shapes(8) {
		for step := range 7 {
			x := grown(t, nil, 8, edges...)
			for k := range 7 {
				// 3 and 7 have no common factor, so each edge has its turn.
				x.cut(t, (step+3*k)%7+1)
				x.like(t)
			}
		}
	}
}

func TestEndsAreAsTheyWereLinked(t *testing.T) {
	x := grown(t, nil, 6, [2]int{3, 1}, [2]int{1, 2}, [2]int{6, 5}, [2]int{5, 3})
	for n, want := range [][2]int{{3, 1}, {1, 2}, {6, 5}, {5, 3}} {
		ends(t, x.f, n+1, want[0], want[1])
	}
	x.cut(t, 4)
	x.link(t, 3, 5)
	ends(t, x.f, 4, 3, 5)
	x.link(t, 4, 1)
	ends(t, x.f, 5, 4, 1)
	ends(t, x.f, 1, 3, 1)
}

func TestNumbersAreAnArenas(t *testing.T) {
	next := shaken(11)
	f, a, edges := tour.New(nil), arena.New[int](), arena.New[int]()
	centre := f.Vertex(0, 0)
	a.Take(0)
	of := map[int]int{} // the edge of a vertex
	for range 4000 {
		v := next(a.Slots()+1) + 2
		n, linked := of[v]
		switch there := a.At(int32(v)) != nil; {
		case next(2) == 0:
			makes(t, f, v, v, int(a.Take(0)))
		case linked:
			cuts(t, f, n, api.OK)
			edges.Free(int32(n))
			delete(of, v)
		case there && next(2) == 0:
			n := int(edges.Take(0))
			links(t, f, centre, v, n)
			of[v] = n
		case there:
			drops(t, f, v, api.OK)
			a.Free(int32(v))
		default:
			drops(t, f, v, api.ErrNone)
		}
		if f.Size(centre) != 1+edges.Len() {
			t.Fatalf("Size = %d behind %d links", f.Size(centre), edges.Len())
		}
	}
}

func TestNumbersAreGivenAgain(t *testing.T) {
	x := grown(t, nil, 7, path(7)...)
	for _, n := range []int{2, 5, 1, 3} {
		cuts(t, x.f, n, x.p.cut(n))
	}
	for _, v := range []int{2, 1, 3} {
		drops(t, x.f, v, x.p.drop(v))
	}
	for _, v := range []int{3, 1, 2, 8} {
		makes(t, x.f, v, v, v)
		x.p.vertex(v, v)
	}
	for k, n := range []int{3, 1, 5, 2} {
		links(t, x.f, 8, []int{3, 1, 2, 5}[k], n)
		x.p.link(8, []int{3, 1, 2, 5}[k])
	}
	x.like(t)
	links(t, x.f, 7, 8, 7)
	x.p.link(7, 8)
	x.like(t)
}

// What is made again knows nothing of what had its number: neither its numbers, nor its mark, nor its edges.
func TestMadeAgainIsNew(t *testing.T) {
	f := tour.New(nil)
	for v := 1; v <= 3; v++ {
		makes(t, f, 5, 5, v)
	}
	links(t, f, 1, 2, 1)
	links(t, f, 2, 3, 2)
	marks(t, f, 2, 15, api.OK)
	marksEdge(t, f, 1, 15, api.OK)
	marksEdge(t, f, 2, 15, api.OK)
	cuts(t, f, 1, api.OK)
	cuts(t, f, 2, api.OK)
	drops(t, f, 2, api.OK)
	makes(t, f, 7, 8, 2)
	tells(t, f, 2, 1, 7, 8)
	finds(t, f, 2, 15, nil)
	links(t, f, 3, 2, 2)
	ends(t, f, 2, 3, 2)
	findsEdge(t, f, 2, 15, nil)
	finds(t, f, 3, 15, nil)
	tells(t, f, 3, 2, 12, 5)
	same(t, f, 1, 2, false)
}

// Vertices and edges have numbers apart: an edge is no vertex of its number, and goes without it.
func TestVerticesAndEdgesAreNumberedApart(t *testing.T) {
	f := tour.New(nil)
	for v := 1; v <= 4; v++ {
		makes(t, f, v, v, v)
	}
	links(t, f, 3, 4, 1)
	marks(t, f, 1, 1, api.OK)
	marksEdge(t, f, 1, 2, api.OK)
	drops(t, f, 1, api.OK)
	ends(t, f, 1, 3, 4)
	findsEdge(t, f, 3, 2, []int{1})
	makes(t, f, 9, 9, 1)
	cuts(t, f, 1, api.OK)
	tells(t, f, 1, 1, 9, 9)
}

func TestWrongNumbersAreNone(t *testing.T) {
	x := grown(t, nil, 6, [2]int{1, 2}, [2]int{2, 3}, [2]int{5, 4})
	x.cut(t, 3)
	x.drop(t, 5)
	x.drop(t, 6)
	gone := append(wrong(), 5, 6, 7, 8, 1+1<<8, 1+1<<16, 1+1<<24, 1<<31, 1<<31+1)
	for _, v := range gone {
		drops(t, x.f, v, api.ErrNone)
		sets(t, x.f, v, 77, 77, api.ErrNone)
		marks(t, x.f, v, 3, api.ErrNone)
		for _, u := range []int{1, 4, v, 5, 0} {
			linksNot(t, x.f, v, u, api.ErrNone)
			linksNot(t, x.f, u, v, api.ErrNone)
			same(t, x.f, v, u, false)
			same(t, x.f, u, v, false)
		}
		tells(t, x.f, v, 0, 0, 0)
		holds(t, x.f, v)
		for _, bits := range masks() {
			finds(t, x.f, v, bits, nil)
			findsEdge(t, x.f, v, bits, nil)
		}
	}
	for _, n := range append(gone, 3, 4) {
		cuts(t, x.f, n, api.ErrNone)
		marksEdge(t, x.f, n, 3, api.ErrNone)
		endsNot(t, x.f, n)
	}
	x.like(t)
	x.vertex(t, 1, 1)
	x.vertex(t, 2, 2)
	x.vertex(t, 3, 3)
	x.link(t, 4, 6)
	x.like(t)
}

// P7.2

// several has the trees 1 2 3 4, 5, and 6 7.
func several(t *testing.T, l []uint32) both {
	t.Helper()
	return grown(t, drawing(t, l), 7, [2]int{1, 2}, [2]int{3, 2}, [2]int{3, 4}, [2]int{7, 6})
}

func TestSeveralTrees(t *testing.T) {
	for _, l := range drawLists(t) {
		f := several(t, l).f
		for _, tree := range [][]int{{1, 2, 3, 4}, {5}, {6, 7}} {
			for _, v := range tree {
				holds(t, f, v, tree...)
				for u := 1; u <= 7; u++ {
					same(t, f, v, u, slices.Contains(tree, u))
				}
			}
		}
		for v, want := range map[int][3]int{1: {4, 100, 96}, 2: {4, 100, 96}, 4: {4, 100, 96}, 5: {1, 50, 95}, 6: {2, 130, 93}, 7: {2, 130, 93}} {
			tells(t, f, v, want[0], want[1], want[2])
		}
	}
}

func TestSetChangesOneVertexAlone(t *testing.T) {
	for _, l := range drawLists(t) {
		x := several(t, l)
		x.mark(t, 3, 6)
		for v := 1; v <= 7; v++ {
			x.set(t, v, v*v, 500*v)
			x.like(t)
		}
		x.set(t, 3, 0, 0)
		x.set(t, 3, 0, 0)
		x.like(t)
		x.set(t, 3, -5, -6)
		x.like(t)
		finds(t, x.f, 1, 2, []int{3})
	}
}

func TestLeastNumbers(t *testing.T) {
	const most = 1 << 62
	for _, c := range []struct {
		least []int
		want  int
	}{
		{[]int{most}, most}, {[]int{most + 1}, most}, {[]int{math.MaxInt}, most}, {[]int{most - 1}, most - 1},
		{[]int{0}, 0}, {[]int{-1}, -1}, {[]int{math.MinInt}, math.MinInt},
		{[]int{most, most}, most}, {[]int{math.MaxInt, most + 1}, most}, {[]int{math.MaxInt, most - 1}, most - 1},
		{[]int{most - 1, most, most + 1}, most - 1}, {[]int{most + 1, most - 1, most}, most - 1},
		{[]int{5, 3, 4}, 3}, {[]int{3, 4, 5}, 3}, {[]int{5, 4, 3}, 3}, {[]int{3, 3}, 3}, {[]int{7, 1, 9, 8}, 1},
		{[]int{1, 0, -7, 2}, -7}, {[]int{math.MaxInt, math.MinInt, 0}, math.MinInt},
	} {
		made, set := tour.New(nil), tour.New(nil)
		for k, n := range c.least {
			makes(t, made, 0, n, k+1)
			makes(t, set, 0, 3, k+1)
			if k > 0 {
				links(t, made, k, k+1, k)
				links(t, set, k+1, k, k)
			}
		}
		for k, n := range c.least {
			sets(t, set, k+1, 0, n, api.OK)
		}
		for k := range c.least {
			tells(t, made, k+1, len(c.least), 0, c.want)
			tells(t, set, k+1, len(c.least), 0, c.want)
		}
	}
}

// A least number above 2^62 is kept as it is, and a lower one holds again when the tree is cut.
func TestLeastRisesAgain(t *testing.T) {
	f := tour.New(nil)
	for v, n := range []int{8, math.MaxInt, 5, 1<<62 - 1} {
		makes(t, f, 0, n, v+1)
	}
	links(t, f, 1, 2, 1)
	links(t, f, 2, 3, 2)
	links(t, f, 2, 4, 3)
	tells(t, f, 2, 4, 0, 5)
	cuts(t, f, 2, api.OK)
	tells(t, f, 2, 3, 0, 8)
	cuts(t, f, 1, api.OK)
	tells(t, f, 2, 2, 0, 1<<62-1)
	cuts(t, f, 3, api.OK)
	tells(t, f, 2, 1, 0, 1<<62)
	sets(t, f, 2, 0, 1, api.OK)
	tells(t, f, 2, 1, 0, 1)
	sets(t, f, 2, 0, 1<<62+1, api.OK)
	tells(t, f, 2, 1, 0, 1<<62)
}

// Sums may be below 0; beyond the greatest number they wrap round, in whatever order they are summed up.
func TestSums(t *testing.T) {
	for _, l := range drawLists(t) {
		f := tour.New(drawing(t, l))
		for v, sum := range []int{math.MaxInt, math.MaxInt, math.MinInt, -7, 0} {
			makes(t, f, sum, 0, v+1)
			if v > 0 {
				links(t, f, 1, v+1, v)
			}
		}
		tells(t, f, 3, 5, math.MaxInt-8, 0)
		cuts(t, f, 2, api.OK)
		tells(t, f, 1, 4, -9, 0)
		tells(t, f, 3, 1, math.MinInt, 0)
	}
}

// P7.3

func TestMarksOfVertices(t *testing.T) {
	x := several(t, nil)
	for v := 1; v <= 7; v++ {
		for _, bits := range []uint8{1, 2, 4, 8, 15, 0, 6, 9} {
			x.mark(t, v, bits)
			x.like(t)
		}
	}
	for v := 1; v <= 7; v++ {
		x.mark(t, v, 0)
		x.like(t)
	}
	finds(t, x.f, 1, 15, nil)
}

func TestMarksOfEdges(t *testing.T) {
	x := several(t, nil)
	for n := 1; n <= 4; n++ {
		for _, bits := range []uint8{1, 2, 4, 8, 15, 0, 6, 9} {
			x.markEdge(t, n, bits)
			x.like(t)
		}
	}
	for n := 1; n <= 4; n++ {
		x.markEdge(t, n, 0)
		x.like(t)
	}
	findsEdge(t, x.f, 1, 15, nil)
}

// A mark takes the place of the one ahead of it: its bits do not gather.
func TestMarksDoNotGather(t *testing.T) {
	f := several(t, nil).f
	marks(t, f, 2, 5, api.OK)
	marks(t, f, 2, 8, api.OK)
	finds(t, f, 4, 7, nil)
	finds(t, f, 4, 12, []int{2})
	marksEdge(t, f, 3, 5, api.OK)
	marksEdge(t, f, 3, 2, api.OK)
	findsEdge(t, f, 1, 13, nil)
	findsEdge(t, f, 1, 2, []int{3})
}

func TestMarksOfVerticesAndEdgesAreApart(t *testing.T) {
	f := several(t, nil).f
	marks(t, f, 2, 3, api.OK)
	marksEdge(t, f, 2, 12, api.OK)
	finds(t, f, 4, 12, nil)
	finds(t, f, 4, 15, []int{2})
	findsEdge(t, f, 4, 3, nil)
	findsEdge(t, f, 4, 15, []int{2})
	marks(t, f, 2, 0, api.OK)
	finds(t, f, 4, 15, nil)
	findsEdge(t, f, 4, 4, []int{2})
	marks(t, f, 1, 1, api.OK)
	marksEdge(t, f, 2, 0, api.OK)
	findsEdge(t, f, 4, 15, nil)
	finds(t, f, 4, 1, []int{1})
	tells(t, f, 4, 4, 100, 96)
}

// No mark has bits above 15, so none is found by them; a bit below is found beside them.
func TestFindByBitsAbove(t *testing.T) {
	f := several(t, nil).f
	for v := 1; v <= 7; v++ {
		marks(t, f, v, 15, api.OK)
	}
	for n := 1; n <= 4; n++ {
		marksEdge(t, f, n, 15, api.OK)
	}
	for v := 1; v <= 7; v++ {
		for _, bits := range []uint8{0, 16, 32, 64, 128, 0x50, 0xf0} {
			finds(t, f, v, bits, nil)
			findsEdge(t, f, v, bits, nil)
		}
	}
	finds(t, f, 7, 0xf1, []int{6, 7})
	findsEdge(t, f, 7, 0x88, []int{4})
	finds(t, f, 5, 0xff, []int{5})
	findsEdge(t, f, 5, 0xff, nil)
}

func TestMarkOfBitsAbove(t *testing.T) {
	x := several(t, nil)
	x.mark(t, 2, 5)
	x.markEdge(t, 2, 10)
	for _, bits := range []uint8{16, 17, 31, 32, 64, 128, 0xf0, 254, 255} {
		for _, n := range append(wrong(), 1, 2, 7, 8) {
			marks(t, x.f, n, bits, api.ErrArg)
			marksEdge(t, x.f, n, bits, api.ErrArg)
		}
	}
	x.like(t)
}

func TestMarksGoWithTheirTrees(t *testing.T) {
	for _, edges := range shapes(8) {
		x := grown(t, nil, 8, edges...)
		x.mark(t, 8, 1)
		x.mark(t, 1, 2)
		x.mark(t, 4, 5)
		x.markEdge(t, 7, 1)
		x.markEdge(t, 1, 2)
		x.markEdge(t, 3, 12)
		x.like(t)
		for n := range edges {
			x.cut(t, n+1)
			x.like(t)
			x.link(t, edges[n][1], edges[n][0])
			x.like(t)
		}
		// A mark goes with its edge, and no edge is marked at first.
		findsEdge(t, x.f, 1, 15, nil)
		finds(t, x.f, 1, 4, []int{4})
	}
}

func TestVerticesOfATree(t *testing.T) {
	for _, edges := range shapes(40) {
		f := grown(t, nil, 40, edges...).f
		var all []int
		for v := 1; v <= 40; v++ {
			all = append(all, v)
		}
		for v := range 40 {
			holds(t, f, v+1, all...)
		}
		cuts(t, f, 39, api.OK)
		holds(t, f, 40, 40)
		holds(t, f, 1, all[:39]...)
	}
}

func TestWalkThatIsLeft(t *testing.T) {
	f := grown(t, nil, 9, bush(9)...).f
	whole := slices.Collect(f.Vertices(4))
	for many := 1; many <= 9; many++ {
		var l []int
		f.Vertices(4)(func(v int) bool {
			l = append(l, v)
			return len(l) < many
		})
		if !slices.Equal(l, whole[:many]) {
			t.Errorf("left behind %d: %v", many, l)
		}
	}
	holds(t, f, 4, 1, 2, 3, 4, 5, 6, 7, 8, 9)
}

func TestWalkIsAsTheTreeIsWhenItBegins(t *testing.T) {
	for what, change := range map[string]func(f *tour.Forest, v int){
		"cut":          func(f *tour.Forest, v int) { f.Cut(v) },
		"cut far":      func(f *tour.Forest, v int) { f.Cut(10 - v) },
		"link":         func(f *tour.Forest, v int) { f.Link(v, f.Vertex(0, 0)) },
		"link another": func(f *tour.Forest, v int) { f.Link(10, v) },
		"cut and link": func(f *tour.Forest, v int) { f.Cut(v); f.Link(f.Vertex(0, 0), v) },
		"drop":         func(f *tour.Forest, v int) { f.Cut(v); f.Cut(v + 1); f.Drop(v + 1) },
		"drop all": func(f *tour.Forest, v int) {
			for n := range 10 {
				f.Cut(n)
			}
			for n := range 10 {
				f.Drop(n)
			}
		},
		"set, mark": func(f *tour.Forest, v int) { f.Set(v, 0, 0); f.Mark(v, 15) },
		"walk":      func(f *tour.Forest, v int) { f.Vertices(v)(func(int) bool { return true }) },
		// What an edge stood for in a tour may stand for a vertex next.
		"vertices for edges": func(f *tour.Forest, v int) {
			for n := range 10 {
				f.Cut(n)
				f.Vertex(0, 0)
				f.Vertex(0, 0)
			}
		},
	} {
		for _, edges := range shapes(9) {
			for _, l := range drawLists(t) {
				f := grown(t, drawing(t, l), 10, edges...).f
				var got []int
				for v := range f.Vertices(5) {
					got = append(got, v)
					change(f, v)
				}
				slices.Sort(got)
				if !slices.Equal(got, []int{1, 2, 3, 4, 5, 6, 7, 8, 9}) {
					t.Fatalf("%s: %v", what, got)
				}
			}
		}
	}
}

func TestWalkThatBeginsAgain(t *testing.T) {
	x := grown(t, nil, 5, path(4)...)
	w := x.f.Vertices(2)
	for _, c := range []struct {
		change func()
		want   []int
	}{
		{func() {}, []int{1, 2, 3, 4}},
		{func() { x.cut(t, 2) }, []int{1, 2}},
		{func() { x.link(t, 5, 1) }, []int{1, 2, 5}},
		{func() { x.cut(t, 1); x.drop(t, 2) }, nil},
		{func() { x.vertex(t, 0, 0) }, []int{2}},
	} {
		c.change()
		if l := slices.Sorted(w); !slices.Equal(l, c.want) {
			t.Fatalf("%v: want %v", l, c.want)
		}
	}
}

func TestWalksInOneAnother(t *testing.T) {
	f := several(t, nil).f
	count := map[[2]int]int{}
	for v := range f.Vertices(6) {
		for u := range f.Vertices(7) {
			count[[2]int{v, u}]++
		}
	}
	if len(count) != 4 || count[[2]int{6, 6}] != 1 || count[[2]int{6, 7}] != 1 || count[[2]int{7, 6}] != 1 || count[[2]int{7, 7}] != 1 {
		t.Error(count)
	}
}

func TestNilForest(t *testing.T) {
	var f *tour.Forest
	for _, n := range append(wrong(), 1, 2) {
		makes(t, f, n, n, 0)
		drops(t, f, n, api.ErrNil)
		cuts(t, f, n, api.ErrNil)
		endsNot(t, f, n)
		tells(t, f, n, 0, 0, 0)
		sets(t, f, n, n, n, api.ErrNil)
		holds(t, f, n)
		same(t, f, n, n, false)
		linksNot(t, f, n, n, api.ErrNil)
		for _, bits := range masks() {
			// Also where bits is above 15: of two errors the one that is named first.
			marks(t, f, n, bits, api.ErrNil)
			marksEdge(t, f, n, bits, api.ErrNil)
			finds(t, f, n, bits, nil)
			findsEdge(t, f, n, bits, nil)
		}
	}
	linksNot(t, f, 1, 2, api.ErrNil)
	same(t, f, 1, 2, false)
}

func TestForestThatNewDidNotMake(t *testing.T) {
	var held struct{ f tour.Forest }
	for _, f := range []*tour.Forest{new(tour.Forest), {}, &held.f} {
		x := both{f, &plain{}}
		x.like(t)
		drops(t, f, 1, api.ErrNone)
		cuts(t, f, 1, api.ErrNone)
		sets(t, f, 1, 1, 1, api.ErrNone)
		marks(t, f, 1, 1, api.ErrNone)
		marks(t, f, 1, 16, api.ErrArg)
		marksEdge(t, f, 1, 1, api.ErrNone)
		marksEdge(t, f, 1, 16, api.ErrArg)
		linksNot(t, f, 1, 2, api.ErrNone)
		for n := range 6 {
			x.vertex(t, n, -n)
			x.link(t, n, n+1)
		}
		x.like(t)
		x.cut(t, 3)
		x.markEdge(t, 2, 3)
		x.mark(t, 2, 3)
		x.like(t)
	}
}

// P7.4

// The sizes and sums of the two trees that a cut makes are together those of the tree that it parts.
func TestCutPartsSizesAndSums(t *testing.T) {
	next := shaken(5)
	for range 30 {
		x := grown(t, nil, 1)
		for v := 2; v <= 30; v++ {
			x.vertex(t, next(1000)-500, next(1000))
			x.link(t, next(v-1)+1, v)
		}
		for n := 1; n <= 29; n++ {
			a, b, _ := x.f.Ends(n)
			size, sum, least := x.f.Size(a), x.f.Sum(b), x.f.Least(a)
			x.cut(t, n)
			if x.f.Size(a)+x.f.Size(b) != size || x.f.Sum(a)+x.f.Sum(b) != sum || min(x.f.Least(a), x.f.Least(b)) != least || x.f.Same(a, b) {
				t.Fatalf("the edge %d of %d, %d", n, a, b)
			}
			if n%2 == 0 {
				x.link(t, b, a)
			}
		}
	}
}

// step does one call or another to a forest and to the plain one.
func step(t *testing.T, x both, next func(int) int) {
	t.Helper()
	v, u, n := next(len(x.p.vertices)+2), next(len(x.p.vertices)+2), next(len(x.p.edges)+2)
	switch next(12) {
	case 0, 1:
		x.vertex(t, next(200)-100, next(200)-100)
	case 2:
		x.drop(t, v)
	case 3, 4, 5, 6:
		x.link(t, v, u)
	case 7, 8:
		x.cut(t, n)
	case 9:
		x.set(t, v, next(200)-100, next(200)-100)
	case 10:
		x.mark(t, v, uint8(next(18)))
	case 11:
		x.markEdge(t, n, uint8(next(18)))
	}
}

func TestHeldAgainstPlainLists(t *testing.T) {
	for what, l := range drawLists(t) {
		t.Run(what, func(t *testing.T) {
			for seed := range uint64(6) {
				next := shaken(seed*1000 + 7)
				x := grown(t, drawing(t, l), 3)
				for k := range 300 {
					step(t, x, next)
					if k%10 == 0 {
						x.like(t)
					}
				}
				x.like(t)
			}
		})
	}
}

// Whatever is drawn, the answers are the same ones but for which marked one is told, and the order of a walk.
func TestDrawsTurnNothing(t *testing.T) {
	var fs []*tour.Forest
	for _, l := range drawLists(t) {
		fs = append(fs, tour.New(drawing(t, l)))
	}
	fs = append(fs, tour.New(nil), new(tour.Forest), tour.New(new(draws.Draws)))
	p := &plain{}
	for _, f := range fs {
		next := shaken(99)
		q := &plain{}
		for range 400 {
			step(t, both{f, q}, next)
		}
		p = q
	}
	for _, f := range fs {
		like(t, f, p)
	}
}

func TestManyVertices(t *testing.T) {
	const many = 20000
	for what, edges := range map[string][][2]int{"path": path(many), "star": star(many), "bush": bush(many)} {
		for _, l := range [][]uint32{nil, slices.Repeat([]uint32{9}, draws.Most)} {
			f := tour.New(drawing(t, l))
			for v := 1; v <= many; v++ {
				makes(t, f, v, many-v, v)
			}
			for k, e := range edges {
				links(t, f, e[0], e[1], k+1)
			}
			tells(t, f, many/2, many, many*(many+1)/2, 0)
			marks(t, f, many/3, 4, api.OK)
			marksEdge(t, f, many/5, 8, api.OK)
			for k, e := range edges {
				cuts(t, f, k+1, api.OK)
				if f.Size(e[0])+f.Size(e[1]) != many || f.Sum(e[0])+f.Sum(e[1]) != many*(many+1)/2 {
					t.Fatalf("%s: cut at %d", what, k+1)
				}
				links(t, f, e[1], e[0], k+1)
				if k+1 < many/5 {
					findsEdge(t, f, e[0], 8, []int{many / 5})
				}
				finds(t, f, e[1], 4, []int{many / 3})
			}
			l := slices.Sorted(f.Vertices(7))
			if len(l) != many || l[0] != 1 || l[many-1] != many || len(slices.Compact(l)) != many {
				t.Fatalf("%s: a walk of %d vertices", what, len(l))
			}
			for k := range edges {
				cuts(t, f, k+1, api.OK)
			}
			for v := 1; v <= many; v++ {
				tells(t, f, v, 1, v, many-v)
				drops(t, f, v, api.OK)
			}
		}
	}
}

// The rules

// With an error nothing has changed, and nothing was drawn.
func TestErrorsChangeNothing(t *testing.T) {
	d := drawing(t, []uint32{3, 1, 2})
	x := grown(t, d, 6, path(5)...)
	x.mark(t, 2, 5)
	x.markEdge(t, 2, 5)
	drawn := d.Len()
	for range 3 {
		linksNot(t, x.f, 1, 5, api.ErrThere)
		linksNot(t, x.f, 6, 6, api.ErrThere)
		linksNot(t, x.f, 6, 7, api.ErrNone)
		linksNot(t, x.f, 0, 6, api.ErrNone)
		drops(t, x.f, 3, api.ErrState)
		drops(t, x.f, 7, api.ErrNone)
		cuts(t, x.f, 5, api.ErrNone)
		sets(t, x.f, 7, 1, 1, api.ErrNone)
		marks(t, x.f, 2, 16, api.ErrArg)
		marks(t, x.f, 7, 1, api.ErrNone)
		marksEdge(t, x.f, 2, 16, api.ErrArg)
		marksEdge(t, x.f, 5, 1, api.ErrNone)
		x.like(t)
	}
	if d.Len() != drawn {
		t.Errorf("%d drawn by calls that erred", d.Len()-drawn)
	}
	x.vertex(t, 1, 1)
	x.link(t, 7, 6)
	x.like(t)
}

func TestForestsKnowNothingOfOneAnother(t *testing.T) {
	a, b, c := several(t, nil), several(t, []uint32{1, 2}), several(t, nil)
	a.cut(t, 2)
	a.drop(t, 5)
	a.mark(t, 1, 15)
	a.markEdge(t, 1, 15)
	a.set(t, 2, 0, 0)
	b.like(t)
	b.link(t, 5, 1)
	b.link(t, 5, 7)
	a.like(t)
	b.like(t)
	c.like(t)
	for v := range b.f.Vertices(1) {
		a.f.Drop(v)
		c.mark(t, v, 3)
	}
	b.like(t)
	c.like(t)
}

// Forests that one object's draws shape are apart too.
func TestForestsInTurns(t *testing.T) {
	d := drawing(t, []uint32{5, 5, 5})
	xs := []both{grown(t, d, 2), grown(t, d, 2), grown(t, nil, 2), grown(t, drawing(t, nil), 2)}
	next := shaken(17)
	for k := range 1200 {
		step(t, xs[k%4], next)
		if k%60 == 0 {
			for _, x := range xs {
				x.like(t)
			}
		}
	}
	for _, x := range xs {
		x.like(t)
	}
}

func TestExamples(t *testing.T) {
	f := tour.New(nil)
	makes(t, f, 10, 7, 1)
	makes(t, f, 20, 5, 2)
	makes(t, f, 30, 6, 3)
	links(t, f, 1, 2, 1)
	links(t, f, 3, 2, 2)
	linksNot(t, f, 1, 3, api.ErrThere)
	tells(t, f, 1, 3, 60, 5)
	tells(t, f, 3, 3, 60, 5)

	marks(t, f, 3, 2, api.OK)
	finds(t, f, 1, 6, []int{3})
	cuts(t, f, 2, api.OK)
	finds(t, f, 1, 6, nil)
	same(t, f, 1, 2, true)
	drops(t, f, 3, api.OK)
	drops(t, f, 1, api.ErrState)
}
