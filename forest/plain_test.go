package forest_test

import (
	"maps"
	"math"
	"slices"
	"testing"

	"tidewalk/api"
	"tidewalk/draws"
	"tidewalk/forest"
)

// limit is the greatest sum and the greatest rank.
const limit = 1 << 40

// plain is a forest as vertices and edges by their numbers, whose trees are walked each time.
type plain struct {
	vertices map[int]plainVertex
	edges    map[int]plainEdge
}

type plainVertex struct {
	sum, least int
	mark       uint8
}

type plainEdge struct {
	a, b int
	mark uint8
}

func bare() *plain {
	return &plain{map[int]plainVertex{}, map[int]plainEdge{}}
}

func (p *plain) has(v int) bool {
	_, ok := p.vertices[v]
	return ok
}

func (p *plain) hasEdge(e int) bool {
	_, ok := p.edges[e]
	return ok
}

func within(sum, least int) bool {
	return 0 <= min(sum, least) && max(sum, least) <= limit
}

func (p *plain) add(v, sum, least int) api.Errno {
	if p.has(v) {
		return api.ErrThere
	}
	if !within(sum, least) {
		return api.ErrArg
	}
	p.vertices[v] = plainVertex{sum: sum, least: least}
	return api.OK
}

func (p *plain) drop(v int) api.Errno {
	if !p.has(v) {
		return api.ErrNone
	}
	for _, x := range p.edges {
		if x.a == v || x.b == v {
			return api.ErrState
		}
	}
	delete(p.vertices, v)
	return api.OK
}

func (p *plain) set(v, sum, least int) api.Errno {
	if !p.has(v) {
		return api.ErrNone
	}
	if !within(sum, least) {
		return api.ErrArg
	}
	p.vertices[v] = plainVertex{sum, least, p.vertices[v].mark}
	return api.OK
}

func (p *plain) link(e, a, b int) api.Errno {
	if e < 1 {
		return api.ErrArg
	}
	if p.hasEdge(e) {
		return api.ErrThere
	}
	if !p.has(a) || !p.has(b) {
		return api.ErrNone
	}
	if slices.Contains(p.tree(a), b) {
		return api.ErrState
	}
	p.edges[e] = plainEdge{a: a, b: b}
	return api.OK
}

func (p *plain) cut(e int) api.Errno {
	if !p.hasEdge(e) {
		return api.ErrNone
	}
	delete(p.edges, e)
	return api.OK
}

func (p *plain) mark(v int, bits uint8) api.Errno {
	if bits > 15 {
		return api.ErrArg
	}
	x, ok := p.vertices[v]
	if !ok {
		return api.ErrNone
	}
	x.mark = bits
	p.vertices[v] = x
	return api.OK
}

func (p *plain) markEdge(e int, bits uint8) api.Errno {
	if bits > 15 {
		return api.ErrArg
	}
	x, ok := p.edges[e]
	if !ok {
		return api.ErrNone
	}
	x.mark = bits
	p.edges[e] = x
	return api.OK
}

// tree is the vertices of a vertex' tree, rising; none, if there is no such vertex.
func (p *plain) tree(v int) []int {
	if !p.has(v) {
		return nil
	}
	l := []int{v}
	for k := 0; k < len(l); k++ {
		for _, x := range p.edges {
			if x.a == l[k] && !slices.Contains(l, x.b) {
				l = append(l, x.b)
			}
			if x.b == l[k] && !slices.Contains(l, x.a) {
				l = append(l, x.a)
			}
		}
	}
	slices.Sort(l)
	return l
}

// treeEdges is the edges between the vertices of a tree, rising.
func (p *plain) treeEdges(tree []int) []int {
	var l []int
	for e, x := range p.edges {
		if slices.Contains(tree, x.a) {
			l = append(l, e)
		}
	}
	slices.Sort(l)
	return l
}

// totals are a tree's size, sum and least rank.
func (p *plain) totals(tree []int) (size, sum, least int) {
	least = -1
	for _, v := range tree {
		x := p.vertices[v]
		sum += x.sum
		if least < 0 || x.least < least {
			least = x.least
		}
	}
	return len(tree), sum, least
}

// like holds all that a forest tells against a plain one.
func like(t *testing.T, f *forest.Forest, p *plain) {
	t.Helper()
	numbers := union(odd(), around(), slices.Collect(maps.Keys(p.vertices)), slices.Collect(maps.Keys(p.edges)))
	var told []int
	for _, v := range numbers {
		if f.Has(v) != p.has(v) || f.HasEdge(v) != p.hasEdge(v) {
			t.Fatalf("Has, HasEdge(%d) = %v, %v", v, f.Has(v), f.HasEdge(v))
		}
		// A tree's vertices are held against it together, by whichever of them comes first.
		if slices.Contains(told, v) {
			continue
		}
		tree := p.tree(v)
		told = append(told, tree...)
		for _, u := range union([]int{v}, tree) {
			likeTree(t, f, p, u, tree)
		}
		for _, u := range numbers {
			same(t, f, v, u, slices.Contains(tree, u))
			same(t, f, u, v, slices.Contains(tree, u))
		}
	}
}

// likeTree does so for the tree of one number, be it a vertex or not.
func likeTree(t *testing.T, f *forest.Forest, p *plain, v int, tree []int) {
	t.Helper()
	size, sum, least := p.totals(tree)
	tells(t, f, v, size, sum, least)
	holds(t, f, v, tree...)
	edges := p.treeEdges(tree)
	for _, bits := range masks() {
		finds(t, f, v, bits, pick(tree, func(u int) bool { return p.vertices[u].mark&bits != 0 }))
		findsEdge(t, f, v, bits, pick(edges, func(e int) bool { return p.edges[e].mark&bits != 0 }))
	}
}

// pick is those of a list that are right.
func pick(l []int, right func(int) bool) []int {
	return slices.DeleteFunc(slices.Clone(l), func(n int) bool { return !right(n) })
}

// union is the numbers of some lists, rising, each once.
func union(ls ...[]int) []int {
	l := slices.Concat(ls...)
	slices.Sort(l)
	return slices.Compact(l)
}

// odd are numbers at which others than whole ones of 64 bits would be mixed up: 0, such below 0, and such beyond 32 bits, with 1 to 3 in the low bits of some.
func odd() []int {
	return []int{
		0, -1, -2, -3, math.MinInt8, math.MaxInt32, math.MaxInt32 + 1, math.MinInt32, math.MinInt32 + 1, math.MinInt32 - 1,
		1 << 32, 1<<32 + 1, 1<<32 + 2, 1<<33 + 3, 1 - 1<<32, 2 - 1<<32, 1 << 62, 1<<62 + 1,
		math.MaxInt, math.MaxInt - 1, math.MinInt, math.MinInt + 1, math.MinInt + 2,
	}
}

// around are the numbers that small forests have.
func around() []int {
	var l []int
	for n := range 12 {
		l = append(l, n)
	}
	return l
}

// masks are all of four bits, and some above.
func masks() []uint8 {
	l := []uint8{16, 17, 0x18, 0x20, 0x40, 0x80, 0x8f, 0xf0, 0xff}
	for bits := range uint8(16) {
		l = append(l, bits)
	}
	return l
}

func adds(t *testing.T, f *forest.Forest, v, sum, least int, want api.Errno) {
	t.Helper()
	if e := f.Add(v, sum, least); e != want {
		t.Fatalf("Add(%d, %d, %d) = %d: want %d", v, sum, least, e, want)
	}
}

func drops(t *testing.T, f *forest.Forest, v int, want api.Errno) {
	t.Helper()
	if e := f.Drop(v); e != want {
		t.Fatalf("Drop(%d) = %d: want %d", v, e, want)
	}
}

func sets(t *testing.T, f *forest.Forest, v, sum, least int, want api.Errno) {
	t.Helper()
	if e := f.Set(v, sum, least); e != want {
		t.Fatalf("Set(%d, %d, %d) = %d: want %d", v, sum, least, e, want)
	}
}

func links(t *testing.T, f *forest.Forest, e, a, b int, want api.Errno) {
	t.Helper()
	if err := f.Link(e, a, b); err != want {
		t.Fatalf("Link(%d, %d, %d) = %d: want %d", e, a, b, err, want)
	}
}

func cuts(t *testing.T, f *forest.Forest, e int, want api.Errno) {
	t.Helper()
	if err := f.Cut(e); err != want {
		t.Fatalf("Cut(%d) = %d: want %d", e, err, want)
	}
}

func marks(t *testing.T, f *forest.Forest, v int, bits uint8, want api.Errno) {
	t.Helper()
	if e := f.Mark(v, bits); e != want {
		t.Fatalf("Mark(%d, %#x) = %d: want %d", v, bits, e, want)
	}
}

func marksEdge(t *testing.T, f *forest.Forest, e int, bits uint8, want api.Errno) {
	t.Helper()
	if err := f.MarkEdge(e, bits); err != want {
		t.Fatalf("MarkEdge(%d, %#x) = %d: want %d", e, bits, err, want)
	}
}

// has holds whether there is a vertex of that number, and an edge, against what should be.
func has(t *testing.T, f *forest.Forest, n int, vertex, edge bool) {
	t.Helper()
	if f.Has(n) != vertex || f.HasEdge(n) != edge {
		t.Fatalf("Has, HasEdge(%d) = %v, %v: want %v, %v", n, f.Has(n), f.HasEdge(n), vertex, edge)
	}
}

func same(t *testing.T, f *forest.Forest, a, b int, want bool) {
	t.Helper()
	if f.Same(a, b) != want {
		t.Fatalf("Same(%d, %d) = %v", a, b, !want)
	}
}

// tells holds a tree's size, sum and least rank against what they should be.
func tells(t *testing.T, f *forest.Forest, v, size, sum, least int) {
	t.Helper()
	if f.Size(v) != size || f.Sum(v) != sum || f.Least(v) != least {
		t.Fatalf("Size, Sum, Least(%d) = %d, %d, %d: want %d, %d, %d", v, f.Size(v), f.Sum(v), f.Least(v), size, sum, least)
	}
}

// holds holds a tree's vertices against those that it should have, rising.
func holds(t *testing.T, f *forest.Forest, v int, want ...int) {
	t.Helper()
	if l := slices.Sorted(f.Vertices(v)); !slices.Equal(l, want) {
		t.Fatalf("Vertices(%d) = %v: want %v", v, l, want)
	}
}

// finds holds what FindVertex tells against those that it may tell.
func finds(t *testing.T, f *forest.Forest, v int, bits uint8, may []int) {
	t.Helper()
	if u, ok := f.FindVertex(v, bits); !found(u, ok, may) {
		t.Fatalf("FindVertex(%d, %#x) = %d, %v: want one of %v", v, bits, u, ok, may)
	}
}

func findsEdge(t *testing.T, f *forest.Forest, v int, bits uint8, may []int) {
	t.Helper()
	if e, ok := f.FindEdge(v, bits); !found(e, ok, may) {
		t.Fatalf("FindEdge(%d, %#x) = %d, %v: want one of %v", v, bits, e, ok, may)
	}
}

func found(n int, ok bool, may []int) bool {
	if len(may) == 0 {
		return n == 0 && !ok
	}
	return ok && slices.Contains(may, n)
}

// shaken are numbers from all over, the same ones for the same seed.
func shaken(seed uint64) func(int) int {
	return func(n int) int {
		seed = seed*6364136223846793005 + 1442695040888963407
		return int((seed >> 33) % uint64(n))
	}
}

func drawing(t *testing.T, l []uint32) *draws.Draws {
	t.Helper()
	d, e := draws.New(l)
	if e != api.OK {
		t.Fatalf("draws of %d numbers: %d", len(l), e)
	}
	return d
}

// drawLists are lists of draws that shape trees in one way and another.
func drawLists(t *testing.T) map[string][]uint32 {
	t.Helper()
	spread := make([]uint32, draws.Most)
	for i := range spread {
		spread[i] = uint32(i+1) * 2654435761
	}
	return map[string][]uint32{
		"none":           nil,
		"zeros":          make([]uint32, 50),
		"greatest":       slices.Repeat([]uint32{math.MaxUint32}, 60),
		"1 2 3":          {1, 2, 3},
		"as many as may": spread,
		"rising":         banded(t, 48, func(i int) int { return i }),
		"falling":        banded(t, 48, func(i int) int { return 47 - i }),
		// By these the first twelve numbers that are drawn are one.
		"tied": {1036824584, 883424985, 139242293, 206842536, 9189363, 884912776,
			150751695, 166318589, 101044875, 419165126, 205552159, 134525668},
	}
}

// banded is a list by which the number i that is drawn is in the band that of tells, of as many bands as there are numbers.
func banded(t *testing.T, many int, of func(int) int) []uint32 {
	t.Helper()
	l := make([]uint32, many)
	for i := range l {
		for last(t, l[:i+1])/(math.MaxUint32/uint32(many)+1) != uint32(of(i)) {
			l[i]++
		}
	}
	return l
}

// last is what is drawn by the last number of a list.
func last(t *testing.T, l []uint32) uint32 {
	d := drawing(t, l)
	for range len(l) - 1 {
		d.Next()
	}
	return d.Next()
}

// both is a forest and the plain one that it is held against.
type both struct {
	f *forest.Forest
	p *plain
}

func (x both) add(t *testing.T, v, sum, least int) {
	t.Helper()
	adds(t, x.f, v, sum, least, x.p.add(v, sum, least))
}

func (x both) drop(t *testing.T, v int) {
	t.Helper()
	drops(t, x.f, v, x.p.drop(v))
}

func (x both) set(t *testing.T, v, sum, least int) {
	t.Helper()
	sets(t, x.f, v, sum, least, x.p.set(v, sum, least))
}

func (x both) link(t *testing.T, e, a, b int) {
	t.Helper()
	links(t, x.f, e, a, b, x.p.link(e, a, b))
}

func (x both) cut(t *testing.T, e int) {
	t.Helper()
	cuts(t, x.f, e, x.p.cut(e))
}

func (x both) mark(t *testing.T, v int, bits uint8) {
	t.Helper()
	marks(t, x.f, v, bits, x.p.mark(v, bits))
}

func (x both) markEdge(t *testing.T, e int, bits uint8) {
	t.Helper()
	marksEdge(t, x.f, e, bits, x.p.markEdge(e, bits))
}

func (x both) like(t *testing.T) {
	t.Helper()
	like(t, x.f, x.p)
}

// grown has vertices 1 to n, of which v has the sum 10 v and the rank 100 - v, and these edges, numbered from 1 on.
func grown(t *testing.T, d *draws.Draws, n int, edges ...[2]int) both {
	t.Helper()
	x := both{forest.New(d), bare()}
	for v := 1; v <= n; v++ {
		x.add(t, v, 10*v, 100-v)
	}
	for k, ends := range edges {
		x.link(t, k+1, ends[0], ends[1])
	}
	return x
}

// path has the edges 1 2, 2 3 and so on, star those of 1 and each other one, bush those of each and half its number.
func path(n int) (l [][2]int) {
	for v := 2; v <= n; v++ {
		l = append(l, [2]int{v - 1, v})
	}
	return l
}

func star(n int) (l [][2]int) {
	for v := 2; v <= n; v++ {
		l = append(l, [2]int{1, v})
	}
	return l
}

func bush(n int) (l [][2]int) {
	for v := 2; v <= n; v++ {
		l = append(l, [2]int{v, v / 2})
	}
	return l
}

func shapes(n int) map[string][][2]int {
	return map[string][][2]int{"path": path(n), "star": star(n), "bush": bush(n)}
}
