package levels_test

import (
	"math"
	"slices"
	"testing"

	"tidewalk/api"
	"tidewalk/draws"
	"tidewalk/levels"
)

// P10.1

func TestNewOfWrongNumbers(t *testing.T) {
	for _, n := range []int{0, -1, -2, 1<<22 + 1, 1<<22 + 2, 1 << 23, 1 << 31, 1 << 32, 1<<32 + 1, 1<<32 + 4, 1 - 1<<32, 1 << 62, math.MaxInt, math.MinInt, math.MinInt + 1} {
		for _, d := range []*draws.Draws{nil, drawing(t, []uint32{1})} {
			if g, e := levels.New(d, n); g != nil || e != api.ErrArg {
				t.Errorf("New(%d) = %v, %d", n, g, e)
			}
			if d.Len() != 0 {
				t.Errorf("New(%d) drew", n)
			}
		}
	}
}

func TestNewHasNoVertices(t *testing.T) {
	for _, n := range []int{1, 2, 3, 100, 1<<22 - 1, 1 << 22} {
		for _, d := range []*draws.Draws{nil, new(draws.Draws), drawing(t, []uint32{5, 6})} {
			x := pair(t, d, n)
			x.like(t)
			if d.Len() != 0 {
				t.Errorf("%d drawn for a graph without vertices", d.Len())
			}
			x.vertex(t, 3, 4)
			tells(t, x.g, 1, 1, 3, 4)
		}
	}
}

func TestNewDrawsFromWhatItIsHanded(t *testing.T) {
	d := drawing(t, []uint32{7, 8, 9})
	x := pair(t, d, 4)
	many := d.Len()
	more := func(what string) {
		t.Helper()
		if d.Len() <= many {
			t.Errorf("nothing drawn for %s", what)
		}
		many = d.Len()
	}
	for range 4 {
		x.vertex(t, 1, 1)
		more("a vertex")
	}
	for v := 1; v <= 3; v++ {
		x.insert(t, v, v+1)
		more("a tree edge")
	}
	x.remove(t, 2)
	more("an edge that rose")
	stands(t, x.g, 1, state{1, 2, 1, true})
}

// For as many as may be, and for a few.
func TestVertexTillThereAreAsManyAsMayBe(t *testing.T) {
	for n := 1; n <= 5; n++ {
		x := pair(t, nil, n)
		for v := 1; v <= n; v++ {
			makes(t, x.g, v, 9-v, v, api.OK)
			x.p.vertex(v, 9-v)
			x.like(t)
		}
		for range 3 {
			makes(t, x.g, 1, 1, 0, api.ErrBound)
			// Of two errors the one that is named first.
			makes(t, x.g, -1, 1, 0, api.ErrBound)
			makes(t, x.g, 1, limit+1, 0, api.ErrBound)
		}
		x.like(t)
		x.drop(t, n)
		makes(t, x.g, -1, 1, 0, api.ErrArg)
		makes(t, x.g, 1, 1, n, api.OK)
		makes(t, x.g, 1, 1, 0, api.ErrBound)
	}
}

func TestVertexWithinBounds(t *testing.T) {
	fit := []int{0, 1, 77, 1 << 32, limit - 1, limit}
	not := []int{-1, -2, limit + 1, limit + 2, 2 * limit, -limit, 1 << 62, math.MaxInt, math.MinInt}
	x := pair(t, nil, len(fit)*len(fit))
	for _, n := range fit {
		for _, k := range fit {
			for _, wrong := range not {
				makes(t, x.g, n, wrong, 0, api.ErrArg)
				makes(t, x.g, wrong, n, 0, api.ErrArg)
				makes(t, x.g, wrong, wrong, 0, api.ErrArg)
			}
			x.vertex(t, n, k)
		}
	}
	x.like(t)
	makes(t, x.g, 0, 0, 0, api.ErrBound)
}

func TestVertexHasTheLeastNumberThatIsFree(t *testing.T) {
	x := grown(t, nil, 9)
	for _, gone := range [][]int{{4}, {9}, {1}, {3, 7}, {7, 3}, {5, 9, 1}, {2, 1, 3}, {9, 8, 7, 6}, {8, 1, 9, 2, 5, 4, 3, 7, 6}} {
		for k, v := range gone {
			x.drop(t, v)
			drops(t, x.g, v, api.ErrNone)
			tells(t, x.g, v, 0, 0, -1)
			if k%2 == 1 {
				x.like(t)
			}
		}
		for _, v := range slices.Sorted(slices.Values(gone)) {
			makes(t, x.g, 500+v, v, v, api.OK)
			x.p.vertices[v] = plainVertex{500 + v, v}
		}
		x.like(t)
	}
	// Some go between others that come.
	x.drop(t, 6)
	x.drop(t, 2)
	makes(t, x.g, 1, 1, 2, api.OK)
	drops(t, x.g, 1, api.OK)
	drops(t, x.g, 8, api.OK)
	makes(t, x.g, 1, 1, 1, api.OK)
	makes(t, x.g, 1, 1, 6, api.OK)
	makes(t, x.g, 1, 1, 8, api.OK)
	makes(t, x.g, 1, 1, 0, api.ErrBound)
}

func TestDropOfAVertexWithEdges(t *testing.T) {
	for _, edges := range shapes(6) {
		x := grown(t, nil, 6, edges...)
		for v := 1; v <= 6; v++ {
			drops(t, x.g, v, api.ErrState)
		}
		x.like(t)
		for k := range edges {
			x.remove(t, k+1)
			for v := 1; v <= 6; v++ {
				x.drop(t, v)
			}
			x.like(t)
		}
		for v := 1; v <= 6; v++ {
			drops(t, x.g, v, api.ErrNone)
		}
	}
}

// A vertex whose edges rose goes as any other one, and the one that gets its number knows nothing of it at any level.
func TestDropOfAVertexWhoseEdgesRose(t *testing.T) {
	x := grown(t, nil, 8, path(8)...)
	extra := x.insert(t, 1, 2)
	x.remove(t, 4)
	x.remove(t, 2)
	stands(t, x.g, 1, state{1, 2, 2, true})
	stands(t, x.g, extra, state{1, 2, 2, false})
	drops(t, x.g, 1, api.ErrState)
	x.remove(t, 1)
	stands(t, x.g, extra, state{1, 2, 2, true})
	drops(t, x.g, 1, api.ErrState)
	x.remove(t, extra)
	x.drop(t, 1)
	x.drop(t, 2)
	x.like(t)
	x.vertex(t, 1, 5)
	x.vertex(t, 2, 6)
	trees(t, x.g, 1, 1, 1, 1, 1)
	trees(t, x.g, 2, 1, 1, 1, 1)
	x.insert(t, 2, 1)
	x.insert(t, 1, 8)
	trees(t, x.g, 1, 6, 1, 1, 1)
	x.like(t)
}

// P10.2

func TestInsertJoins(t *testing.T) {
	g := made(t, nil, 5)
	for v := 1; v <= 5; v++ {
		makes(t, g, 1<<v, 50+v, v, api.OK)
	}
	inserts(t, g, 4, 2, 1, api.OK)
	stands(t, g, 1, state{4, 2, 0, true})
	tells(t, g, 2, 2, 20, 52)
	inserts(t, g, 2, 5, 2, api.OK)
	stands(t, g, 2, state{2, 5, 0, true})
	inserts(t, g, 5, 4, 3, api.OK)
	stands(t, g, 3, state{5, 4, 0, false})
	inserts(t, g, 1, 4, 4, api.OK)
	for v, want := range map[int][3]int{1: {4, 54, 51}, 2: {4, 54, 51}, 3: {1, 8, 53}, 4: {4, 54, 51}, 5: {4, 54, 51}} {
		tells(t, g, v, want[0], want[1], want[2])
	}
	for a := 1; a <= 5; a++ {
		for b := 1; b <= 5; b++ {
			joins(t, g, a, b, (a == 3) == (b == 3))
		}
	}
	if vertices, edges := g.Len(); vertices != 5 || edges != 4 {
		t.Errorf("Len = %d, %d", vertices, edges)
	}
}

func TestInsertOfWrongNumbers(t *testing.T) {
	x := grown(t, nil, 6, [2]int{1, 2}, [2]int{2, 3}, [2]int{3, 1})
	x.drop(t, 5)
	x.drop(t, 6)
	for _, v := range append(odd(), 5, 6, 7, 8, 1+1<<8, 1+1<<16, 1+1<<24, 1<<31, 1<<31+1) {
		for _, u := range []int{1, 2, 4, 5, 0, -1, 7} {
			inserts(t, x.g, v, u, 0, api.ErrNone)
			inserts(t, x.g, u, v, 0, api.ErrNone)
		}
		// Of two errors the one that is named first.
		inserts(t, x.g, v, v, 0, api.ErrNone)
	}
	for v := 1; v <= 4; v++ {
		inserts(t, x.g, v, v, 0, api.ErrArg)
	}
	x.like(t)
	if e := x.insert(t, 4, 1); e != 4 {
		t.Errorf("edge %d behind errors", e)
	}
	x.like(t)
}

func TestInsertHasTheLeastNumberThatIsFree(t *testing.T) {
	x := grown(t, nil, 4, whole(4)...)
	for _, gone := range [][]int{{4}, {6}, {1}, {3, 5}, {5, 3}, {5, 6, 1}, {2, 1, 3}, {6, 5, 4, 3}, {4, 1, 6, 2, 5, 3}} {
		for _, e := range gone {
			x.remove(t, e)
			deletes(t, x.g, e, api.ErrNone)
			x.like(t)
		}
		for k, e := range slices.Sorted(slices.Values(gone)) {
			inserts(t, x.g, k%4+1, (k+1)%4+1, e, api.OK)
			x.p.insert(k%4+1, (k+1)%4+1)
			x.was[e] = x.states()[e]
		}
		x.like(t)
	}
	if e := x.insert(t, 1, 2); e != 7 {
		t.Errorf("edge %d: want 7", e)
	}
}

func TestDeleteOfWrongNumbers(t *testing.T) {
	x := grown(t, nil, 4, whole(4)...)
	x.remove(t, 2)
	x.remove(t, 5)
	for _, e := range append(odd(), 2, 5, 7, 8, 1+1<<8, 1+1<<16, 1+1<<24, 1<<31, 1<<31+1) {
		deletes(t, x.g, e, api.ErrNone)
		if a, b, level, tree, ok := x.g.Edge(e); a != 0 || b != 0 || level != 0 || tree || ok {
			t.Errorf("Edge(%d) = %d, %d, %d, %v, %v", e, a, b, level, tree, ok)
		}
	}
	x.like(t)
}

// A new edge of an old number knows nothing of what had it: neither its ends, nor its level, nor whether it was a tree edge.
func TestNewUnderAnOldNumber(t *testing.T) {
	x := grown(t, nil, 8, path(8)...)
	x.remove(t, 4)
	stands(t, x.g, 2, state{2, 3, 1, true})
	x.remove(t, 2)
	inserts(t, x.g, 8, 5, 2, api.OK)
	stands(t, x.g, 2, state{8, 5, 0, false})
	inserts(t, x.g, 3, 2, 4, api.OK)
	stands(t, x.g, 4, state{3, 2, 0, true})
	trees(t, x.g, 1, 4, 2, 2, 1)
}

func TestTwoVerticesWithSeveralEdges(t *testing.T) {
	for _, l := range drawLists(t) {
		for _, n := range []int{2, 3, 5} {
			x := grown(t, drawing(t, l), n)
			for range 6 {
				x.insert(t, 1, 2)
				x.insert(t, 2, 1)
			}
			x.like(t)
			stands(t, x.g, 1, state{1, 2, 0, true})
			stands(t, x.g, 2, state{2, 1, 0, false})
			for many := 12; many > 0; many-- {
				e := tree(t, x)
				x.remove(t, e)
				joins(t, x.g, 1, 2, many > 1)
				x.like(t)
			}
			drops(t, x.g, 1, api.OK)
		}
	}
}

// tree is the only tree edge of a graph.
func tree(t *testing.T, x both) int {
	t.Helper()
	var l []int
	for e, y := range x.was {
		if y.tree {
			l = append(l, e)
		}
	}
	if len(l) != 1 {
		t.Fatalf("%d tree edges", len(l))
	}
	return l[0]
}

func TestTreeEdgeThatOneOfItsLevelReplaces(t *testing.T) {
	x := grown(t, nil, 3, ring(3)...)
	stands(t, x.g, 3, state{3, 1, 0, false})
	x.remove(t, 1)
	stands(t, x.g, 2, state{2, 3, 0, true})
	stands(t, x.g, 3, state{3, 1, 0, true})
	tells(t, x.g, 1, 3, 60, limit-3)
	x.like(t)

	// The same at level 1: the sides are alike, so the edges of the first end's one rise.
	x = grown(t, nil, 6, [2]int{1, 2}, [2]int{2, 3}, [2]int{3, 1}, [2]int{3, 4}, [2]int{4, 5}, [2]int{5, 6})
	x.remove(t, 4)
	for e := 1; e <= 3; e++ {
		stands(t, x.g, e, state{e, e%3 + 1, 1, e != 3})
	}
	stands(t, x.g, 5, state{4, 5, 0, true})
	stands(t, x.g, 6, state{5, 6, 0, true})
	trees(t, x.g, 2, 3, 3, 1)
	trees(t, x.g, 5, 3, 1, 1)
	x.remove(t, 1)
	stands(t, x.g, 2, state{2, 3, 1, true})
	stands(t, x.g, 3, state{3, 1, 1, true})
	trees(t, x.g, 1, 3, 3, 1)
	x.like(t)
}

func TestTreeEdgeThatOneOfALowerLevelReplaces(t *testing.T) {
	x := grown(t, nil, 8, path(8)...)
	x.remove(t, 4)
	x.remove(t, 2)
	stands(t, x.g, 1, state{1, 2, 2, true})
	trees(t, x.g, 1, 2, 2, 2, 1)
	inserts(t, x.g, 2, 1, 2, api.OK)
	x.p.insert(2, 1)
	x.was[2] = state{2, 1, 0, false}
	x.remove(t, 1)
	stands(t, x.g, 2, state{2, 1, 0, true})
	trees(t, x.g, 1, 2, 1, 1, 1)
	trees(t, x.g, 2, 2, 1, 1, 1)
	tells(t, x.g, 1, 2, 30, limit-2)
	x.like(t)
	x.remove(t, 2)
	joins(t, x.g, 1, 2, false)
	x.like(t)
}

func TestTreeEdgeThatNoneReplaces(t *testing.T) {
	for _, l := range drawLists(t) {
		for _, edges := range [][][2]int{path(8), star(8), bush(8)} {
			for k, ends := range edges {
				x := grown(t, drawing(t, l), 8, edges...)
				size := len(reach(slices.Delete(slices.Clone(edges), k, k+1), ends[0]))
				x.remove(t, k+1)
				joins(t, x.g, ends[0], ends[1], false)
				if x.g.Size(ends[0]) != size || x.g.Size(ends[1]) != 8-size {
					t.Fatalf("sides of %d and %d: want %d", x.g.Size(ends[0]), x.g.Size(ends[1]), size)
				}
				x.like(t)
			}
		}
	}
}

// The edges of the side with fewer vertices rise, and no others; of sides alike those of the first end's.
func TestTheSideWhoseEdgesRise(t *testing.T) {
	for _, l := range drawLists(t) {
		for k, want := range map[int][]int{1: nil, 2: {1}, 3: {1, 2}, 4: {1, 2, 3}, 5: {6, 7}, 6: {7}, 7: nil} {
			for turned := range 2 {
				edges := path(8)
				if turned == 1 {
					for i, ends := range edges {
						edges[i] = [2]int{ends[1], ends[0]}
					}
					if k == 4 {
						want = []int{5, 6, 7}
					}
				}
				x := grown(t, drawing(t, l), 8, edges...)
				x.remove(t, k)
				for e, y := range x.was {
					if (y.level == 1) != slices.Contains(want, e) || y.level > 1 {
						t.Fatalf("without %d: edge %d is of level %d", k, e, y.level)
					}
				}
			}
		}
	}
}

// Where none leads out of the lesser side, all of its level's edges rise, those that are no tree edges too; those of the other side do not.
func TestEdgesThatAreNoTreeEdgesRise(t *testing.T) {
	for _, l := range drawLists(t) {
		x := grown(t, drawing(t, l), 8, whole(4)...)
		for _, ends := range whole(4) {
			x.insert(t, ends[0]+4, ends[1]+4)
		}
		bridge := x.insert(t, 6, 3)
		x.remove(t, bridge)
		for e, y := range x.was {
			if (y.level == 1) != (e > 6) || y.level > 1 {
				t.Fatalf("edge %d %v", e, y)
			}
		}
		trees(t, x.g, 5, 4, 4, 1, 1)
		trees(t, x.g, 1, 4, 1, 1, 1)
		x.like(t)
	}
}

func TestDeleteOfAnEdgeThatIsNoTreeEdge(t *testing.T) {
	for _, l := range drawLists(t) {
		x := grown(t, drawing(t, l), 6, whole(6)...)
		before, n := x.states(), 0
		for e, y := range before {
			if y.tree {
				continue
			}
			n++
			x.remove(t, e)
			tells(t, x.g, 1+n%6, 6, 210, limit-6)
			x.like(t)
		}
		if n != 10 {
			t.Fatalf("%d of 15 edges are no tree edges of 6 vertices", n)
		}
	}
}

// chain is a path of n vertices, n a power of two, that is halved till the edge 1 2 is as high as edges come: one below the highest level, since a tree of the highest one is a vertex alone. Beside it are other edges of the same two vertices, which rose with it.
func chain(t *testing.T, l []uint32, n int) both {
	t.Helper()
	x := grown(t, drawing(t, l), n, path(n)...)
	for range 3 {
		x.insert(t, 2, 1)
	}
	for half := n / 2; half > 1; half /= 2 {
		x.remove(t, half)
	}
	return x
}

func TestEdgesRiseAsHighAsTheyCome(t *testing.T) {
	for _, l := range drawLists(t) {
		for n, highest := range map[int]int{2: 1, 4: 2, 8: 3, 16: 4, 32: 5, 64: 6} {
			x := chain(t, l, n)
			if x.g.Highest() != highest {
				t.Fatalf("Highest of %d = %d", n, x.g.Highest())
			}
			stands(t, x.g, 1, state{1, 2, highest - 1, true})
			for e := n; e <= n+2; e++ {
				stands(t, x.g, e, state{2, 1, highest - 1, false})
			}
			want := slices.Repeat([]int{2}, highest)
			trees(t, x.g, 1, append(want, 1)...)
			x.like(t)
			// Another one of the highest there is replaces it each time, and rises no more.
			for range 4 {
				e := highestTree(x, highest-1)
				if e == 0 {
					t.Fatalf("no tree edge of level %d", highest-1)
				}
				x.remove(t, e)
			}
			joins(t, x.g, 1, 2, false)
			trees(t, x.g, 1, slices.Repeat([]int{1}, highest+1)...)
			x.like(t)
		}
	}
}

// highestTree is a tree edge of a level; 0, if there is none.
func highestTree(x both, level int) int {
	for e, y := range x.was {
		if y.tree && y.level == level {
			return e
		}
	}
	return 0
}

// P10.3

func TestTreeOfEachLevel(t *testing.T) {
	x := chain(t, nil, 16)
	for v, want := range map[int][]int{
		1: {2, 2, 2, 2, 1}, 2: {2, 2, 2, 2, 1}, 3: {2, 2, 2, 1, 1}, 4: {2, 2, 2, 1, 1},
		5: {4, 4, 1, 1, 1}, 8: {4, 4, 1, 1, 1}, 9: {8, 1, 1, 1, 1}, 16: {8, 1, 1, 1, 1},
	} {
		trees(t, x.g, v, want...)
	}
	for v := 1; v <= 16; v++ {
		for _, level := range wrongLevels(4) {
			if n := x.g.Tree(v, level); n != 0 {
				t.Errorf("Tree(%d, %d) = %d", v, level, n)
			}
		}
	}
	for _, v := range append(odd(), 17) {
		for level := -1; level <= 5; level++ {
			if n := x.g.Tree(v, level); n != 0 {
				t.Errorf("Tree(%d, %d) = %d", v, level, n)
			}
		}
	}
}

// Of a level that the forest has not come to, a vertex that is there is alone.
func TestTreeWhereTheForestHasNotCome(t *testing.T) {
	for n := 1; n <= 9; n++ {
		x := grown(t, nil, n, path(n)...)
		for v := 1; v <= n; v++ {
			want := slices.Repeat([]int{1}, x.g.Highest()+1)
			want[0] = n
			trees(t, x.g, v, want...)
		}
	}
	x := pair(t, nil, 8)
	for _, level := range []int{-1, 0, 1, 3, 4} {
		if n := x.g.Tree(1, level); n != 0 {
			t.Errorf("Tree(1, %d) = %d without vertices", level, n)
		}
	}
}

func TestHighest(t *testing.T) {
	for n, want := range map[int]int{
		1: 0, 2: 1, 3: 1, 4: 2, 5: 2, 6: 2, 7: 2, 8: 3, 9: 3, 15: 3, 16: 4, 17: 4, 31: 4, 32: 5, 1000: 9, 1023: 9, 1024: 10, 1025: 10,
		65535: 15, 65536: 16, 1<<21 - 1: 20, 1 << 21: 21, 1<<22 - 1: 21, 1 << 22: 22,
	} {
		g := made(t, nil, n)
		if g.Highest() != want {
			t.Errorf("Highest of %d = %d: want %d", n, g.Highest(), want)
		}
		makes(t, g, 0, 0, 1, api.OK)
		if g.Tree(1, want) != 1 || g.Tree(1, want+1) != 0 || g.Highest() != want {
			t.Errorf("Tree of %d: %d, %d", n, g.Tree(1, want), g.Tree(1, want+1))
		}
	}
}

func TestSumsAndRanksAtTheirBounds(t *testing.T) {
	g := made(t, nil, 5)
	for v, pair := range [][2]int{{limit, limit}, {0, limit}, {limit, limit - 1}, {limit, 0}, {0, limit}} {
		makes(t, g, pair[0], pair[1], v+1, api.OK)
	}
	tells(t, g, 1, 1, limit, limit)
	tells(t, g, 5, 1, 0, limit)
	inserts(t, g, 1, 2, 1, api.OK)
	tells(t, g, 2, 2, limit, limit)
	inserts(t, g, 2, 3, 2, api.OK)
	tells(t, g, 1, 3, 2*limit, limit-1)
	inserts(t, g, 3, 4, 3, api.OK)
	tells(t, g, 1, 4, 3*limit, 0)
	deletes(t, g, 2, api.OK)
	tells(t, g, 1, 2, limit, limit)
	tells(t, g, 4, 2, 2*limit, 0)
}

// Sums and ranks are those of all vertices, also where edges rose and were replaced.
func TestSumsAndRanksWhereEdgesRose(t *testing.T) {
	x := chain(t, nil, 16)
	tells(t, x.g, 2, 2, 30, limit-2)
	x.insert(t, 2, 9)
	x.insert(t, 5, 1)
	tells(t, x.g, 2, 14, 10*(136-7), limit-16)
	x.remove(t, highestTree(x, 3))
	tells(t, x.g, 16, 14, 10*(136-7), limit-16)
	x.like(t)
}

func TestWrongNumbersAreNone(t *testing.T) {
	x := grown(t, nil, 6, [2]int{1, 2}, [2]int{2, 3}, [2]int{4, 5})
	x.remove(t, 3)
	x.drop(t, 5)
	x.drop(t, 6)
	for _, v := range append(odd(), 5, 6, 7, 8, 1+1<<8, 1+1<<16, 1+1<<24, 1<<31, 1<<31+1) {
		drops(t, x.g, v, api.ErrNone)
		if x.g.Has(v) {
			t.Errorf("Has(%d)", v)
		}
		tells(t, x.g, v, 0, 0, -1)
		for _, u := range []int{1, 4, v, 5, 0} {
			joins(t, x.g, v, u, false)
			joins(t, x.g, u, v, false)
		}
		for level := -1; level <= 4; level++ {
			if n := x.g.Tree(v, level); n != 0 {
				t.Errorf("Tree(%d, %d) = %d", v, level, n)
			}
		}
	}
	x.like(t)
}

func TestNilGraph(t *testing.T) {
	var g *levels.Graph
	for _, n := range append(odd(), 1, 2) {
		for _, k := range []int{0, 5, -1, limit + 1} {
			makes(t, g, n, k, 0, api.ErrNil)
			makes(t, g, k, n, 0, api.ErrNil)
			inserts(t, g, n, k, 0, api.ErrNil)
			inserts(t, g, k, n, 0, api.ErrNil)
		}
		inserts(t, g, n, n, 0, api.ErrNil)
		drops(t, g, n, api.ErrNil)
		deletes(t, g, n, api.ErrNil)
		tellsNothing(t, g, n)
	}
}

// tellsNothing holds that a graph has neither a vertex nor an edge of that number, nor of any other one.
func tellsNothing(t *testing.T, g *levels.Graph, n int) {
	t.Helper()
	tells(t, g, n, 0, 0, -1)
	joins(t, g, n, n, false)
	joins(t, g, n, 1, false)
	a, b, level, tree, ok := g.Edge(n)
	vertices, edges := g.Len()
	if g.Has(n) || a != 0 || b != 0 || level != 0 || tree || ok || vertices != 0 || edges != 0 || g.Highest() != 0 {
		t.Errorf("%d: %v; %d %d %d %v %v; %d %d; %d", n, g.Has(n), a, b, level, tree, ok, vertices, edges, g.Highest())
	}
	for _, k := range append(odd(), 1, 2) {
		if g.Tree(n, k) != 0 || g.Tree(k, n) != 0 {
			t.Errorf("Tree of %d, %d", n, k)
		}
	}
}

// The chapter says nothing of it, but no call may panic.
func TestGraphThatNewDidNotMake(t *testing.T) {
	var held struct{ g levels.Graph }
	for _, g := range []*levels.Graph{new(levels.Graph), {}, &held.g} {
		for _, n := range append(odd(), 1, 2) {
			makes(t, g, 1, 1, 0, api.ErrBound)
			makes(t, g, n, n, 0, api.ErrBound)
			drops(t, g, n, api.ErrNone)
			inserts(t, g, n, n, 0, api.ErrNone)
			inserts(t, g, n, 1, 0, api.ErrNone)
			deletes(t, g, n, api.ErrNone)
			tellsNothing(t, g, n)
		}
	}
}

// P10.4

// step does one call or another to a graph and to the plain one. Edges are between vertices close by more often than not, so that there are small trees within great ones.
func step(t *testing.T, x both, next func(int) int) {
	t.Helper()
	values := []int{0, 1, next(200), next(200), next(200), limit - 1, limit, limit + 1, -1}
	n := x.p.most
	v, e := next(n+1)+next(2)*next(2), next(2*n)+next(2)
	switch next(16) {
	case 0:
		x.vertex(t, values[next(len(values))], values[next(len(values))])
	case 1:
		x.drop(t, v)
	case 2:
		wrong := odd()[next(len(odd()))]
		x.insert(t, wrong, v)
		x.insert(t, v, wrong)
		x.remove(t, wrong)
		x.drop(t, wrong)
	case 3, 4:
		x.insert(t, v, next(n+1))
	case 5, 6, 7, 8, 9:
		x.insert(t, v, v+1-next(3))
	default:
		x.remove(t, e)
	}
}

func TestHeldAgainstAPlainSearch(t *testing.T) {
	seen := map[string]int{}
	for what, l := range drawLists(t) {
		t.Run(what, func(t *testing.T) {
			for _, n := range []int{1, 2, 3, 4, 5, 6, 7, 8, 13, 16, 24, 33} {
				next := shaken(uint64(n)*1000 + 7)
				x := grown(t, drawing(t, l), n)
				for k := range 500 {
					step(t, x, next)
					if k%25 == 0 {
						x.like(t)
					}
				}
				x.like(t)
				for what, many := range x.seen {
					seen[what] += many
				}
			}
		})
	}
	// The steps reach all that may come of an edge that is taken out.
	for _, what := range []string{
		"no tree edge", "none replaces it", "sides alike", "one of a lower level replaces it",
		"one of its own level 0 replaces it", "one of its own level above 0 replaces it", "one replaces it where others may rise",
	} {
		if seen[what] < 50 {
			t.Errorf("%s: %d times", what, seen[what])
		}
	}
}

// All edges between some vertices, taken out in many orders.
func TestShapesTakenDown(t *testing.T) {
	for what, edges := range shapes(9) {
		for seed := range uint64(6) {
			next := shaken(seed)
			for _, l := range [][]uint32{nil, {3, 1, 2}} {
				x := grown(t, drawing(t, l), 9, edges...)
				x.like(t)
				for k := len(edges); k > 0; k-- {
					x.remove(t, nth(x, next(k)))
				}
				x.like(t)
				if _, many := x.g.Len(); many != 0 {
					t.Fatalf("%s: %d edges are left", what, many)
				}
			}
		}
	}
}

// nth is an edge by how many lesser ones there are.
func nth(x both, n int) int {
	for e := 1; ; e++ {
		if _, ok := x.was[e]; !ok {
			continue
		}
		if n == 0 {
			return e
		}
		n--
	}
}

// Each two vertices of a graph that may have a few, joined and parted in all orders.
func TestFewVertices(t *testing.T) {
	for n := 1; n <= 5; n++ {
		for seed := range uint64(20) {
			next := shaken(seed + 100)
			x := grown(t, nil, n, whole(n)...)
			for range 40 {
				x.remove(t, next(n*n)+1)
				x.insert(t, next(n)+1, next(n)+1)
			}
			x.like(t)
		}
	}
}

// Whatever is drawn, the answers are the same ones but for levels, and which edges are tree edges.
func TestDrawsTurnNothing(t *testing.T) {
	gs := []*levels.Graph{made(t, nil, 20), made(t, new(draws.Draws), 20)}
	for _, l := range drawLists(t) {
		gs = append(gs, made(t, drawing(t, l), 20))
	}
	p := bare(20)
	for _, g := range gs {
		p = bare(20)
		next := shaken(99)
		x := both{g, p, map[int]state{}, map[string]int{}}
		for range 20 {
			x.vertex(t, 7, 7)
		}
		for range 1500 {
			step(t, x, next)
		}
	}
	for _, g := range gs {
		like(t, g, p)
	}
}

// told is the levels of edges, and which are tree edges, by number.
func told(g *levels.Graph) []int {
	var l []int
	for e := range 100 {
		_, _, level, tree, _ := g.Edge(e)
		if tree {
			level += 100
		}
		l = append(l, level)
	}
	return l
}

// traced is all that draws could turn of what a graph tells of some steps.
func traced(t *testing.T, g *levels.Graph) []int {
	t.Helper()
	var l []int
	next := shaken(31)
	x := both{g, bare(20), map[int]state{}, map[string]int{}}
	for range 20 {
		x.vertex(t, 7, 7)
	}
	for range 500 {
		step(t, x, next)
		l = append(l, told(g)...)
	}
	return l
}

// Draws of one list are one, and without draws all is as from a list of none.
func TestDrawsOfOneListAreOne(t *testing.T) {
	for what, l := range drawLists(t) {
		if !slices.Equal(traced(t, made(t, drawing(t, l), 20)), traced(t, made(t, drawing(t, l), 20))) {
			t.Errorf("%s: not the same twice", what)
		}
	}
	none := traced(t, made(t, drawing(t, nil), 20))
	for _, d := range []*draws.Draws{nil, new(draws.Draws)} {
		if !slices.Equal(traced(t, made(t, d, 20)), none) {
			t.Error("without draws: not as from no numbers")
		}
	}
}

// sized says for each edge of a graph, in the order in which all of them are taken out, how many vertices are joined to its ends when it is gone, and whether these are joined. It is reckoned from the last one back, with sets that grow together.
func sized(n int, order [][2]int) (l []sides) {
	of, many := make([]int, n+1), make([]int, n+1)
	for v := range of {
		of[v], many[v] = v, 1
	}
	find := func(v int) int {
		for of[v] != v {
			of[v] = of[of[v]]
			v = of[v]
		}
		return v
	}
	for _, ends := range slices.Backward(order) {
		a, b := find(ends[0]), find(ends[1])
		l = append(l, sides{many[a], many[b], a == b})
		if a != b {
			if many[a] < many[b] {
				a, b = b, a
			}
			of[b] = a
			many[a] += many[b]
		}
	}
	slices.Reverse(l)
	return l
}

type sides struct {
	a, b   int
	joined bool
}

func TestManyVertices(t *testing.T) {
	for what, edges := range map[string][][2]int{
		"path": path(4096), "star": star(4096), "bush": bush(4096), "ring": ring(4096), "field": field(64), "whole": whole(120),
	} {
		for _, d := range []*draws.Draws{nil, drawing(t, slices.Repeat([]uint32{9}, draws.Most))} {
			n := 0
			for _, ends := range edges {
				n = max(n, ends[0], ends[1])
			}
			g := made(t, d, n)
			for v := 1; v <= n; v++ {
				makes(t, g, v, v, v, api.OK)
			}
			for k, ends := range edges {
				inserts(t, g, ends[0], ends[1], k+1, api.OK)
			}
			tells(t, g, n/2, n, n*(n+1)/2, 1)
			takenDown(t, what, g, n, edges)
			for v := 1; v <= n; v++ {
				tells(t, g, v, 1, v, v)
				drops(t, g, v, api.OK)
			}
		}
	}
}

// takenDown takes all edges out, in an order from all over, and holds the ends of each against what should be.
func takenDown(t *testing.T, what string, g *levels.Graph, n int, edges [][2]int) {
	t.Helper()
	next := shaken(5)
	order, numbers := slices.Clone(edges), make([]int, len(edges))
	for k := range numbers {
		numbers[k] = k + 1
		i := next(k + 1)
		order[k], order[i] = order[i], order[k]
		numbers[k], numbers[i] = numbers[i], numbers[k]
	}
	for k, size := range sized(n, order) {
		ends := order[k]
		if a, b, level, _, ok := g.Edge(numbers[k]); a != ends[0] || b != ends[1] || level > g.Highest() || !ok {
			t.Fatalf("%s: edge %d = %d, %d, %d", what, numbers[k], a, b, level)
		}
		deletes(t, g, numbers[k], api.OK)
		if g.Size(ends[0]) != size.a || g.Size(ends[1]) != size.b || g.Connected(ends[0], ends[1]) != size.joined {
			t.Fatalf("%s: without %v: %d and %d: want %v", what, ends, g.Size(ends[0]), g.Size(ends[1]), size)
		}
		for level := range g.Highest() + 1 {
			if many := g.Tree(ends[0], level); many < 1 || many > n>>level {
				t.Fatalf("%s: a tree of %d vertices at level %d", what, many, level)
			}
		}
	}
}

// A graph for as many vertices as may be takes as much as what is in it.
func TestAsManyVerticesAsMayBe(t *testing.T) {
	g := made(t, nil, api.MaxCells)
	for v := 1; v <= 300; v++ {
		makes(t, g, 1, v, v, api.OK)
	}
	for v := 2; v <= 300; v++ {
		inserts(t, g, v-1, v, v-1, api.OK)
	}
	tells(t, g, 7, 300, 300, 1)
	deletes(t, g, 150, api.OK)
	tells(t, g, 7, 150, 150, 1)
	tells(t, g, 151, 150, 150, 151)
	if g.Tree(7, 1) != 150 || g.Tree(7, 22) != 1 || g.Tree(151, 1) != 1 || g.Tree(7, 23) != 0 {
		t.Errorf("Tree = %d, %d, %d, %d", g.Tree(7, 1), g.Tree(7, 22), g.Tree(151, 1), g.Tree(7, 23))
	}
}

// The rules

// With an error nothing has changed, and nothing was drawn.
func TestErrorsChangeNothing(t *testing.T) {
	d := drawing(t, []uint32{3, 1, 2})
	x := grown(t, d, 6, ring(5)...)
	x.remove(t, 2)
	drawn := d.Len()
	for range 3 {
		makes(t, x.g, 1, 1, 0, api.ErrBound)
		makes(t, x.g, -1, 1, 0, api.ErrBound)
		inserts(t, x.g, 1, 7, 0, api.ErrNone)
		inserts(t, x.g, 0, 1, 0, api.ErrNone)
		inserts(t, x.g, 6, 6, 0, api.ErrArg)
		drops(t, x.g, 3, api.ErrState)
		drops(t, x.g, 7, api.ErrNone)
		deletes(t, x.g, 2, api.ErrNone)
		deletes(t, x.g, 6, api.ErrNone)
		x.became(t, x.was)
		x.like(t)
	}
	x.drop(t, 6)
	makes(t, x.g, -1, 1, 0, api.ErrArg)
	makes(t, x.g, 1, limit+1, 0, api.ErrArg)
	if d.Len() != drawn {
		t.Errorf("%d drawn by calls that erred", d.Len()-drawn)
	}
	x.vertex(t, 1, 1)
	if e := x.insert(t, 6, 1); e != 2 {
		t.Errorf("edge %d: want 2", e)
	}
	x.like(t)
}

func TestGraphsKnowNothingOfOneAnother(t *testing.T) {
	a, b, c := chain(t, nil, 16), chain(t, []uint32{1, 2}, 16), chain(t, nil, 16)
	a.remove(t, 1)
	a.remove(t, 14)
	a.insert(t, 16, 1)
	b.became(t, b.was)
	b.like(t)
	b.insert(t, 5, 1)
	b.remove(t, 7)
	b.drop(t, 7)
	a.became(t, a.was)
	a.like(t)
	b.like(t)
	c.became(t, c.was)
	c.like(t)
}

// Graphs that one object's draws shape are apart too.
func TestGraphsInTurns(t *testing.T) {
	d := drawing(t, []uint32{5, 5, 5})
	xs := []both{grown(t, d, 12), grown(t, d, 12), grown(t, nil, 9), grown(t, drawing(t, nil), 5)}
	next := shaken(17)
	for k := range 2400 {
		step(t, xs[k%4], next)
		if k%120 == 0 {
			for _, x := range xs {
				x.became(t, x.was)
				x.like(t)
			}
		}
	}
	for _, x := range xs {
		x.like(t)
	}
}

func TestExamples(t *testing.T) {
	g := made(t, nil, 4)
	for v := 1; v <= 3; v++ {
		makes(t, g, 1, 1, v, api.OK)
	}
	inserts(t, g, 1, 2, 1, api.OK)
	inserts(t, g, 2, 3, 2, api.OK)
	inserts(t, g, 3, 1, 3, api.OK)
	stands(t, g, 3, state{3, 1, 0, false})

	deletes(t, g, 1, api.OK)
	joins(t, g, 1, 2, true)
	tells(t, g, 1, 3, 3, 1)
	deletes(t, g, 3, api.OK)
	joins(t, g, 1, 2, false)
	inserts(t, g, 1, 1, 0, api.ErrArg)
	drops(t, g, 3, api.ErrState)
	drops(t, g, 1, api.OK)
	makes(t, g, 1, 1, 1, api.OK)
}
