package tour_test

import (
	"math"
	"slices"
	"testing"

	"tidewalk/api"
	"tidewalk/draws"
	"tidewalk/tour"
)

// plain is a forest as lists of vertices and of edges, whose trees are walked each time.
type plain struct {
	vertices []plainVertex
	edges    []plainEdge
	// The free numbers stand in the order in which they were freed.
	freeVertices, freeEdges []int
}

type plainVertex struct {
	there      bool
	sum, least int
	mark       uint8
}

type plainEdge struct {
	there bool
	a, b  int
	mark  uint8
}

func (p *plain) has(v int) bool { return v >= 1 && v <= len(p.vertices) && p.vertices[v-1].there }

func (p *plain) hasEdge(n int) bool { return n >= 1 && n <= len(p.edges) && p.edges[n-1].there }

func (p *plain) vertex(sum, least int) int {
	x := plainVertex{there: true, sum: sum, least: least}
	if n := len(p.freeVertices); n > 0 {
		v := p.freeVertices[n-1]
		p.freeVertices = p.freeVertices[:n-1]
		p.vertices[v-1] = x
		return v
	}
	p.vertices = append(p.vertices, x)
	return len(p.vertices)
}

func (p *plain) drop(v int) api.Errno {
	if !p.has(v) {
		return api.ErrNone
	}
	if len(p.treeEdges(p.tree(v))) > 0 {
		return api.ErrState
	}
	p.vertices[v-1] = plainVertex{}
	p.freeVertices = append(p.freeVertices, v)
	return api.OK
}

func (p *plain) link(a, b int) (int, api.Errno) {
	if !p.has(a) || !p.has(b) {
		return 0, api.ErrNone
	}
	if slices.Contains(p.tree(a), b) {
		return 0, api.ErrThere
	}
	x := plainEdge{there: true, a: a, b: b}
	if n := len(p.freeEdges); n > 0 {
		e := p.freeEdges[n-1]
		p.freeEdges = p.freeEdges[:n-1]
		p.edges[e-1] = x
		return e, api.OK
	}
	p.edges = append(p.edges, x)
	return len(p.edges), api.OK
}

func (p *plain) cut(n int) api.Errno {
	if !p.hasEdge(n) {
		return api.ErrNone
	}
	p.edges[n-1] = plainEdge{}
	p.freeEdges = append(p.freeEdges, n)
	return api.OK
}

func (p *plain) set(v, sum, least int) api.Errno {
	if !p.has(v) {
		return api.ErrNone
	}
	p.vertices[v-1].sum, p.vertices[v-1].least = sum, least
	return api.OK
}

func (p *plain) mark(v int, bits uint8) api.Errno {
	if bits > 15 {
		return api.ErrArg
	}
	if !p.has(v) {
		return api.ErrNone
	}
	p.vertices[v-1].mark = bits
	return api.OK
}

func (p *plain) markEdge(n int, bits uint8) api.Errno {
	if bits > 15 {
		return api.ErrArg
	}
	if !p.hasEdge(n) {
		return api.ErrNone
	}
	p.edges[n-1].mark = bits
	return api.OK
}

// tree is the vertices of a vertex' tree, rising; none, if there is no such vertex.
func (p *plain) tree(v int) []int {
	if !p.has(v) {
		return nil
	}
	l := []int{v}
	for k := 0; k < len(l); k++ {
		for _, x := range p.edges {
			if !x.there || x.a != l[k] && x.b != l[k] {
				continue
			}
			if u := x.a + x.b - l[k]; !slices.Contains(l, u) {
				l = append(l, u)
			}
		}
	}
	slices.Sort(l)
	return l
}

// treeEdges is the edges between the vertices of a tree.
func (p *plain) treeEdges(tree []int) []int {
	var l []int
	for k, x := range p.edges {
		if x.there && slices.Contains(tree, x.a) {
			l = append(l, k+1)
		}
	}
	return l
}

func (p *plain) sum(tree []int) int {
	all := 0
	for _, v := range tree {
		all += p.vertices[v-1].sum
	}
	return all
}

func (p *plain) least(tree []int) int {
	if len(tree) == 0 {
		return 0
	}
	n := 1 << 62
	for _, v := range tree {
		n = min(n, p.vertices[v-1].least)
	}
	return n
}

// like holds all that a forest tells against a plain one.
func like(t *testing.T, f *tour.Forest, p *plain) {
	t.Helper()
	for _, v := range around(len(p.vertices)) {
		likeTree(t, f, p, v)
	}
	for _, n := range around(len(p.edges)) {
		x := plainEdge{}
		if p.hasEdge(n) {
			x = p.edges[n-1]
		}
		if a, b, ok := f.Ends(n); a != x.a || b != x.b || ok != x.there {
			t.Fatalf("Ends(%d) = %d, %d, %v: want %d, %d, %v", n, a, b, ok, x.a, x.b, x.there)
		}
	}
}

// likeTree does so for the tree of one number, be it a vertex or not.
func likeTree(t *testing.T, f *tour.Forest, p *plain, v int) {
	t.Helper()
	tree := p.tree(v)
	tells(t, f, v, len(tree), p.sum(tree), p.least(tree))
	holds(t, f, v, tree...)
	for _, u := range around(len(p.vertices)) {
		same(t, f, v, u, slices.Contains(tree, u))
	}
	edges := p.treeEdges(tree)
	for _, bits := range masks() {
		finds(t, f, v, bits, pick(tree, func(u int) bool { return p.vertices[u-1].mark&bits != 0 }))
		findsEdge(t, f, v, bits, pick(edges, func(n int) bool { return p.edges[n-1].mark&bits != 0 }))
	}
}

// pick is those of a list that are right.
func pick(l []int, right func(int) bool) []int {
	return slices.DeleteFunc(slices.Clone(l), func(n int) bool { return !right(n) })
}

// around are the numbers from 1 to a bit more than n, and wrong ones.
func around(n int) []int {
	l := wrong()
	for i := range n + 2 {
		l = append(l, i+1)
	}
	return l
}

// wrong are numbers that are no vertex and no edge; 1 to 3 stand in the low bits of some.
func wrong() []int {
	return []int{
		0, -1, -2, math.MinInt8, math.MaxInt32, math.MaxInt32 + 1, math.MinInt32, math.MinInt32 + 1, math.MinInt32 - 1,
		1 << 32, 1<<32 + 1, 1<<32 + 2, 1<<33 + 3, 1 - 1<<32, 2 - 1<<32, 1 << 62, 1<<62 + 1,
		math.MaxInt, math.MaxInt - 1, math.MinInt, math.MinInt + 1, math.MinInt + 2,
	}
}

// masks are all of four bits, and some above.
func masks() []uint8 {
	l := []uint8{16, 17, 0x18, 0x20, 0x40, 0x80, 0x8f, 0xf0, 0xff}
	for bits := range uint8(16) {
		l = append(l, bits)
	}
	return l
}

func makes(t *testing.T, f *tour.Forest, sum, least, want int) {
	t.Helper()
	if v := f.Vertex(sum, least); v != want {
		t.Fatalf("Vertex(%d, %d) = %d: want %d", sum, least, v, want)
	}
}

func drops(t *testing.T, f *tour.Forest, v int, want api.Errno) {
	t.Helper()
	if e := f.Drop(v); e != want {
		t.Fatalf("Drop(%d) = %d: want %d", v, e, want)
	}
}

func links(t *testing.T, f *tour.Forest, a, b, want int) {
	t.Helper()
	if n, e := f.Link(a, b); n != want || e != api.OK {
		t.Fatalf("Link(%d, %d) = %d, %d: want %d", a, b, n, e, want)
	}
}

func linksNot(t *testing.T, f *tour.Forest, a, b int, want api.Errno) {
	t.Helper()
	if n, e := f.Link(a, b); n != 0 || e != want {
		t.Fatalf("Link(%d, %d) = %d, %d: want 0, %d", a, b, n, e, want)
	}
}

func cuts(t *testing.T, f *tour.Forest, n int, want api.Errno) {
	t.Helper()
	if e := f.Cut(n); e != want {
		t.Fatalf("Cut(%d) = %d: want %d", n, e, want)
	}
}

func ends(t *testing.T, f *tour.Forest, n, wantA, wantB int) {
	t.Helper()
	if a, b, ok := f.Ends(n); a != wantA || b != wantB || !ok {
		t.Fatalf("Ends(%d) = %d, %d, %v: want %d, %d", n, a, b, ok, wantA, wantB)
	}
}

func endsNot(t *testing.T, f *tour.Forest, n int) {
	t.Helper()
	if a, b, ok := f.Ends(n); a != 0 || b != 0 || ok {
		t.Fatalf("Ends(%d) = %d, %d, %v: want nothing", n, a, b, ok)
	}
}

func sets(t *testing.T, f *tour.Forest, v, sum, least int, want api.Errno) {
	t.Helper()
	if e := f.Set(v, sum, least); e != want {
		t.Fatalf("Set(%d, %d, %d) = %d: want %d", v, sum, least, e, want)
	}
}

func marks(t *testing.T, f *tour.Forest, v int, bits uint8, want api.Errno) {
	t.Helper()
	if e := f.Mark(v, bits); e != want {
		t.Fatalf("Mark(%d, %#x) = %d: want %d", v, bits, e, want)
	}
}

func marksEdge(t *testing.T, f *tour.Forest, n int, bits uint8, want api.Errno) {
	t.Helper()
	if e := f.MarkEdge(n, bits); e != want {
		t.Fatalf("MarkEdge(%d, %#x) = %d: want %d", n, bits, e, want)
	}
}

func same(t *testing.T, f *tour.Forest, a, b int, want bool) {
	t.Helper()
	if f.Same(a, b) != want {
		t.Fatalf("Same(%d, %d) = %v", a, b, !want)
	}
}

// tells holds a tree's size, sum and least number against what they should be.
func tells(t *testing.T, f *tour.Forest, v, size, sum, least int) {
	t.Helper()
	if f.Size(v) != size || f.Sum(v) != sum || f.Least(v) != least {
		t.Fatalf("Size, Sum, Least(%d) = %d, %d, %d: want %d, %d, %d", v, f.Size(v), f.Sum(v), f.Least(v), size, sum, least)
	}
}

// holds holds a tree's vertices against those that it should have, rising.
func holds(t *testing.T, f *tour.Forest, v int, want ...int) {
	t.Helper()
	if l := slices.Sorted(f.Vertices(v)); !slices.Equal(l, want) {
		t.Fatalf("Vertices(%d) = %v: want %v", v, l, want)
	}
}

// finds holds what FindVertex tells against those that it may tell.
func finds(t *testing.T, f *tour.Forest, v int, bits uint8, may []int) {
	t.Helper()
	u, ok := f.FindVertex(v, bits)
	if !found(u, ok, may) {
		t.Fatalf("FindVertex(%d, %#x) = %d, %v: want one of %v", v, bits, u, ok, may)
	}
}

func findsEdge(t *testing.T, f *tour.Forest, v int, bits uint8, may []int) {
	t.Helper()
	n, ok := f.FindEdge(v, bits)
	if !found(n, ok, may) {
		t.Fatalf("FindEdge(%d, %#x) = %d, %v: want one of %v", v, bits, n, ok, may)
	}
}

func found(n int, ok bool, may []int) bool {
	if len(may) == 0 {
		return n == 0 && !ok
	}
	return ok && slices.Contains(may, n)
}

// shaken are numbers from all over, the same ones for the same seed.
func shaken(seed uint64) func(int) int {
	return func(n int) int {
		seed = seed*6364136223846793005 + 1442695040888963407
		return int((seed >> 33) % uint64(n))
	}
}

func drawing(t *testing.T, l []uint32) *draws.Draws {
	t.Helper()
	d, e := draws.New(l)
	if e != api.OK {
		t.Fatalf("draws of %d numbers: %d", len(l), e)
	}
	return d
}

// drawLists are lists of draws that shape treaps in one way and another.
func drawLists(t *testing.T) map[string][]uint32 {
	t.Helper()
	spread := make([]uint32, draws.Most)
	for i := range spread {
		spread[i] = uint32(i+1) * 2654435761
	}
	return map[string][]uint32{
		"none":           nil,
		"zeros":          make([]uint32, 50),
		"greatest":       slices.Repeat([]uint32{math.MaxUint32}, 60),
		"1 2 3":          {1, 2, 3},
		"as many as may": spread,
		"rising":         banded(t, 48, func(i int) int { return i }),
		"falling":        banded(t, 48, func(i int) int { return 47 - i }),
		"tied": {1036824584, 883424985, 139242293, 206842536, 9189363, 884912776,
			150751695, 166318589, 101044875, 419165126, 205552159, 134525668},
	}
}

// banded is a list by which the number i that is drawn is in the band that of tells, of as many bands as there are numbers.
func banded(t *testing.T, many int, of func(int) int) []uint32 {
	t.Helper()
	l := make([]uint32, many)
	for i := range l {
		for last(t, l[:i+1])/(math.MaxUint32/uint32(many)+1) != uint32(of(i)) {
			l[i]++
		}
	}
	return l
}

// last is what is drawn by the last number of a list.
func last(t *testing.T, l []uint32) uint32 {
	d := drawing(t, l)
	for range len(l) - 1 {
		d.Next()
	}
	return d.Next()
}

// both is a forest and the plain one that it is held against.
type both struct {
	f *tour.Forest
	p *plain
}

func (x both) vertex(t *testing.T, sum, least int) {
	t.Helper()
	makes(t, x.f, sum, least, x.p.vertex(sum, least))
}

func (x both) drop(t *testing.T, v int) {
	t.Helper()
	drops(t, x.f, v, x.p.drop(v))
}

func (x both) link(t *testing.T, a, b int) {
	t.Helper()
	want, e := x.p.link(a, b)
	if e != api.OK {
		linksNot(t, x.f, a, b, e)
	} else {
		links(t, x.f, a, b, want)
	}
}

func (x both) cut(t *testing.T, n int) {
	t.Helper()
	cuts(t, x.f, n, x.p.cut(n))
}

func (x both) set(t *testing.T, v, sum, least int) {
	t.Helper()
	sets(t, x.f, v, sum, least, x.p.set(v, sum, least))
}

func (x both) mark(t *testing.T, v int, bits uint8) {
	t.Helper()
	marks(t, x.f, v, bits, x.p.mark(v, bits))
}

func (x both) markEdge(t *testing.T, n int, bits uint8) {
	t.Helper()
	marksEdge(t, x.f, n, bits, x.p.markEdge(n, bits))
}

func (x both) like(t *testing.T) {
	t.Helper()
	like(t, x.f, x.p)
}

// grown has vertices 1 to n, of which v has the sum 10 v and the least number 100 - v, and these edges.
func grown(t *testing.T, d *draws.Draws, n int, edges ...[2]int) both {
	t.Helper()
	x := both{tour.New(d), &plain{}}
	for v := 1; v <= n; v++ {
		x.vertex(t, 10*v, 100-v)
	}
	for _, e := range edges {
		x.link(t, e[0], e[1])
	}
	return x
}

// path has the edges 1 2, 2 3 and so on, star those of 1 and each other one, bush those of each and half its number.
func path(n int) (l [][2]int) {
	for v := 2; v <= n; v++ {
		l = append(l, [2]int{v - 1, v})
	}
	return l
}

func star(n int) (l [][2]int) {
	for v := 2; v <= n; v++ {
		l = append(l, [2]int{1, v})
	}
	return l
}

func bush(n int) (l [][2]int) {
	for v := 2; v <= n; v++ {
		l = append(l, [2]int{v, v / 2})
	}
	return l
}

func shapes(n int) map[string][][2]int {
	return map[string][][2]int{"path": path(n), "star": star(n), "bush": bush(n)}
}
