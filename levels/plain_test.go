package levels_test

import (
	"maps"
	"math"
	"slices"
	"testing"

	"tidewalk/api"
	"tidewalk/draws"
	"tidewalk/levels"
)

// limit is the greatest sum and the greatest rank.
const limit = 1 << 40

// plain is a graph as its vertices and edges by their numbers, all of which are searched each time.
type plain struct {
	most     int
	vertices map[int]plainVertex
	edges    map[int][2]int
}

type plainVertex struct{ sum, least int }

func bare(most int) *plain {
	return &plain{most, map[int]plainVertex{}, map[int][2]int{}}
}

func (p *plain) has(v int) bool {
	_, ok := p.vertices[v]
	return ok
}

func within(n int) bool { return n >= 0 && n <= limit }

// lowest is the least number from 1 on that is not in a map.
func lowest[T any](m map[int]T) int {
	for n := 1; ; n++ {
		if _, ok := m[n]; !ok {
			return n
		}
	}
}

func (p *plain) vertex(sum, least int) (int, api.Errno) {
	if len(p.vertices) == p.most {
		return 0, api.ErrBound
	}
	if !within(sum) || !within(least) {
		return 0, api.ErrArg
	}
	v := lowest(p.vertices)
	p.vertices[v] = plainVertex{sum, least}
	return v, api.OK
}

func (p *plain) drop(v int) api.Errno {
	if !p.has(v) {
		return api.ErrNone
	}
	for _, ends := range p.edges {
		if slices.Contains(ends[:], v) {
			return api.ErrState
		}
	}
	delete(p.vertices, v)
	return api.OK
}

func (p *plain) insert(a, b int) (int, api.Errno) {
	if !p.has(a) || !p.has(b) {
		return 0, api.ErrNone
	}
	if a == b {
		return 0, api.ErrArg
	}
	e := lowest(p.edges)
	p.edges[e] = [2]int{a, b}
	return e, api.OK
}

func (p *plain) remove(e int) api.Errno {
	if _, ok := p.edges[e]; !ok {
		return api.ErrNone
	}
	delete(p.edges, e)
	return api.OK
}

// joined is what edges join to a vertex, rising; none, if there is no such vertex.
func (p *plain) joined(v int) []int {
	if !p.has(v) {
		return nil
	}
	return reach(slices.Collect(maps.Values(p.edges)), v)
}

// reach is what pairs lead to from a vertex, itself too, rising.
func reach(pairs [][2]int, v int) []int {
	beside := map[int][]int{}
	for _, x := range pairs {
		beside[x[0]] = append(beside[x[0]], x[1])
		beside[x[1]] = append(beside[x[1]], x[0])
	}
	in := map[int]bool{v: true}
	l := []int{v}
	for k := 0; k < len(l); k++ {
		for _, u := range beside[l[k]] {
			if !in[u] {
				in[u] = true
				l = append(l, u)
			}
		}
	}
	slices.Sort(l)
	return l
}

// totals are what some vertices are together.
func (p *plain) totals(l []int) (size, sum, least int) {
	least = -1
	for _, v := range l {
		x := p.vertices[v]
		sum += x.sum
		if least < 0 || x.least < least {
			least = x.least
		}
	}
	return len(l), sum, least
}

// like holds all that a graph tells, but for levels and tree edges, against a plain one.
func like(t *testing.T, g *levels.Graph, p *plain) {
	t.Helper()
	if vertices, edges := g.Len(); vertices != len(p.vertices) || edges != len(p.edges) {
		t.Fatalf("Len = %d, %d: want %d, %d", vertices, edges, len(p.vertices), len(p.edges))
	}
	numbers := union(odd(), slices.Collect(maps.Keys(p.vertices)), slices.Collect(maps.Keys(p.edges)))
	var told []int
	for _, v := range numbers {
		likeEdge(t, g, p, v)
		if g.Has(v) != p.has(v) {
			t.Fatalf("Has(%d) = %v", v, g.Has(v))
		}
		// What is joined is held against it together, by whichever comes first.
		if slices.Contains(told, v) {
			continue
		}
		l := p.joined(v)
		told = append(told, l...)
		size, sum, least := p.totals(l)
		for _, u := range union([]int{v}, l) {
			tells(t, g, u, size, sum, least)
		}
		for _, u := range numbers {
			joins(t, g, v, u, slices.Contains(l, u))
			joins(t, g, u, v, slices.Contains(l, u))
		}
	}
}

func likeEdge(t *testing.T, g *levels.Graph, p *plain, e int) {
	t.Helper()
	a, b, level, tree, ok := g.Edge(e)
	ends, is := p.edges[e]
	if a != ends[0] || b != ends[1] || ok != is || !is && (level != 0 || tree) {
		t.Fatalf("Edge(%d) = %d, %d, %d, %v, %v: want the ends %v, %v", e, a, b, level, tree, ok, ends, is)
	}
}

// union is the numbers of some lists, rising, each once.
func union(ls ...[]int) []int {
	l := slices.Concat(ls...)
	slices.Sort(l)
	return slices.Compact(l)
}

// odd are numbers that few graphs have: 0, such below 0, and such beyond 32 bits, with 1 to 3 in the low bits of some.
func odd() []int {
	return []int{
		0, -1, -2, -3, math.MinInt8, math.MaxInt32, math.MaxInt32 + 1, math.MinInt32, math.MinInt32 + 1, math.MinInt32 - 1,
		1 << 32, 1<<32 + 1, 1<<32 + 2, 1<<33 + 3, 1 - 1<<32, 2 - 1<<32, 1 << 62, 1<<62 + 1,
		math.MaxInt, math.MaxInt - 1, math.MinInt, math.MinInt + 1, math.MinInt + 2,
	}
}

func makes(t *testing.T, g *levels.Graph, sum, least, want int, err api.Errno) {
	t.Helper()
	if v, e := g.Vertex(sum, least); v != want || e != err {
		t.Fatalf("Vertex(%d, %d) = %d, %d: want %d, %d", sum, least, v, e, want, err)
	}
}

func drops(t *testing.T, g *levels.Graph, v int, want api.Errno) {
	t.Helper()
	if e := g.Drop(v); e != want {
		t.Fatalf("Drop(%d) = %d: want %d", v, e, want)
	}
}

func inserts(t *testing.T, g *levels.Graph, a, b, want int, err api.Errno) {
	t.Helper()
	if k, e := g.Insert(a, b); k != want || e != err {
		t.Fatalf("Insert(%d, %d) = %d, %d: want %d, %d", a, b, k, e, want, err)
	}
}

func deletes(t *testing.T, g *levels.Graph, edge int, want api.Errno) {
	t.Helper()
	if e := g.Delete(edge); e != want {
		t.Fatalf("Delete(%d) = %d: want %d", edge, e, want)
	}
}

func joins(t *testing.T, g *levels.Graph, a, b int, want bool) {
	t.Helper()
	if g.Connected(a, b) != want {
		t.Fatalf("Connected(%d, %d) = %v", a, b, !want)
	}
}

// tells holds what is joined to a vertex, told by its size, its sum and its least rank, against what it should be.
func tells(t *testing.T, g *levels.Graph, v, size, sum, least int) {
	t.Helper()
	if g.Size(v) != size || g.Sum(v) != sum || g.Least(v) != least {
		t.Fatalf("Size, Sum, Least(%d) = %d, %d, %d: want %d, %d, %d", v, g.Size(v), g.Sum(v), g.Least(v), size, sum, least)
	}
}

// stands holds an edge against what it should be.
func stands(t *testing.T, g *levels.Graph, e int, want state) {
	t.Helper()
	a, b, level, tree, ok := g.Edge(e)
	if got := (state{a, b, level, tree}); got != want || !ok {
		t.Fatalf("Edge(%d) = %v, %v: want %v", e, got, ok, want)
	}
}

// trees holds the sizes of a vertex' trees, from level 0 on to the highest one, against what they should be.
func trees(t *testing.T, g *levels.Graph, v int, want ...int) {
	t.Helper()
	if len(want) != g.Highest()+1 {
		t.Fatalf("%d levels up to %d", len(want), g.Highest())
	}
	for level, n := range want {
		if g.Tree(v, level) != n {
			t.Fatalf("Tree(%d, %d) = %d: want %d", v, level, g.Tree(v, level), n)
		}
	}
}

// shaken are numbers from all over, the same ones for the same seed.
func shaken(seed uint64) func(int) int {
	return func(n int) int {
		seed = seed*6364136223846793005 + 1442695040888963407
		return int((seed >> 33) % uint64(n))
	}
}

func made(t *testing.T, d *draws.Draws, n int) *levels.Graph {
	t.Helper()
	g, e := levels.New(d, n)
	if g == nil || e != api.OK {
		t.Fatalf("New(%d) = %v, %d", n, g, e)
	}
	return g
}

func drawing(t *testing.T, l []uint32) *draws.Draws {
	t.Helper()
	d, e := draws.New(l)
	if e != api.OK {
		t.Fatalf("draws of %d numbers: %d", len(l), e)
	}
	return d
}

// drawLists are lists of draws that shape trees in one way and another.
func drawLists(t *testing.T) map[string][]uint32 {
	t.Helper()
	spread := make([]uint32, draws.Most)
	for i := range spread {
		spread[i] = uint32(i+1) * 2654435761
	}
	return map[string][]uint32{
		"none":           nil,
		"zeros":          make([]uint32, 50),
		"greatest":       slices.Repeat([]uint32{math.MaxUint32}, 60),
		"1 2 3":          {1, 2, 3},
		"as many as may": spread,
		"rising":         banded(t, 48, func(i int) int { return i }),
		"falling":        banded(t, 48, func(i int) int { return 47 - i }),
		// By these the first twelve numbers that are drawn are one.
		"tied": {1036824584, 883424985, 139242293, 206842536, 9189363, 884912776,
			150751695, 166318589, 101044875, 419165126, 205552159, 134525668},
	}
}

// banded is a list by which the number i that is drawn is in the band that of tells, of as many bands as there are numbers.
func banded(t *testing.T, many int, of func(int) int) []uint32 {
	t.Helper()
	l := make([]uint32, many)
	for i := range l {
		for last(t, l[:i+1])/(math.MaxUint32/uint32(many)+1) != uint32(of(i)) {
			l[i]++
		}
	}
	return l
}

// last is what is drawn by the last number of a list.
func last(t *testing.T, l []uint32) uint32 {
	d := drawing(t, l)
	for range len(l) - 1 {
		d.Next()
	}
	return d.Next()
}

// path has the edges 1 2, 2 3 and so on, star those of 1 and each other one, bush those of each and half its number, ring those of a path and one that closes it, whole those of each two.
func path(n int) (l [][2]int) {
	for v := 2; v <= n; v++ {
		l = append(l, [2]int{v - 1, v})
	}
	return l
}

func star(n int) (l [][2]int) {
	for v := 2; v <= n; v++ {
		l = append(l, [2]int{1, v})
	}
	return l
}

func bush(n int) (l [][2]int) {
	for v := 2; v <= n; v++ {
		l = append(l, [2]int{v, v / 2})
	}
	return l
}

func ring(n int) [][2]int {
	return append(path(n), [2]int{n, 1})
}

func whole(n int) (l [][2]int) {
	for v := 2; v <= n; v++ {
		for u := 1; u < v; u++ {
			l = append(l, [2]int{u, v})
		}
	}
	return l
}

// field has the edges of w by w cells, each of which is beside up to four others.
func field(w int) (l [][2]int) {
	for v := 1; v <= w*w; v++ {
		if v%w != 0 {
			l = append(l, [2]int{v, v + 1})
		}
		if v <= w*(w-1) {
			l = append(l, [2]int{v + w, v})
		}
	}
	return l
}

func shapes(n int) map[string][][2]int {
	return map[string][][2]int{
		"path": path(n), "star": star(n), "bush": bush(n), "ring": ring(n), "whole": whole(n),
		"twice": append(path(n), path(n)...),
	}
}
