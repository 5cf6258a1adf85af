package levels_test

import (
	"maps"
	"slices"
	"testing"

	"tidewalk/api"
	"tidewalk/draws"
	"tidewalk/levels"
)

// state is how an edge stands.
type state struct {
	a, b, level int
	tree        bool
}

// both is a graph, the plain one that it is held against, and how the graph's edges stood behind the call ahead.
type both struct {
	g   *levels.Graph
	p   *plain
	was map[int]state
	// seen counts what came of tree edges that were taken out.
	seen map[string]int
}

func pair(t *testing.T, d *draws.Draws, n int) both {
	t.Helper()
	return both{made(t, d, n), bare(n), map[int]state{}, map[string]int{}}
}

// grown is for n vertices and has them, of which v has the sum 10 v and the rank limit - v, and these edges.
func grown(t *testing.T, d *draws.Draws, n int, edges ...[2]int) both {
	t.Helper()
	x := pair(t, d, n)
	for v := 1; v <= n; v++ {
		x.vertex(t, 10*v, limit-v)
	}
	for _, ends := range edges {
		x.insert(t, ends[0], ends[1])
	}
	return x
}

func (x both) vertex(t *testing.T, sum, least int) {
	t.Helper()
	v, err := x.p.vertex(sum, least)
	makes(t, x.g, sum, least, v, err)
	x.became(t, x.was)
}

func (x both) drop(t *testing.T, v int) {
	t.Helper()
	drops(t, x.g, v, x.p.drop(v))
	x.became(t, x.was)
}

func (x both) insert(t *testing.T, a, b int) int {
	t.Helper()
	alone := !slices.Contains(x.p.joined(a), b)
	e, err := x.p.insert(a, b)
	inserts(t, x.g, a, b, e, err)
	want := maps.Clone(x.was)
	if err == api.OK {
		want[e] = state{a, b, 0, alone}
	}
	x.became(t, want)
	return e
}

func (x both) remove(t *testing.T, e int) {
	t.Helper()
	deletes(t, x.g, e, x.p.remove(e))
	x.became(t, x.without(t, e))
}

// states are how the edges stand that there are.
func (x both) states() map[int]state {
	m := map[int]state{}
	for e := range x.p.edges {
		a, b, level, tree, _ := x.g.Edge(e)
		m[e] = state{a, b, level, tree}
	}
	return m
}

// became holds how all edges stand against how they should, and remembers it.
func (x both) became(t *testing.T, want map[int]state) {
	t.Helper()
	got := x.states()
	if !maps.Equal(got, want) {
		t.Fatalf("edges stand as %v: want %v", got, want)
	}
	want = maps.Clone(want)
	clear(x.was)
	maps.Copy(x.was, want)
	x.right(t)
}

// without is how the edges should stand when one was taken out. Where it may be one way or another, it is as the graph has it, if that may be.
func (x both) without(t *testing.T, gone int) map[int]state {
	t.Helper()
	m := maps.Clone(x.was)
	cut, ok := m[gone]
	if !ok {
		return m
	}
	delete(m, gone)
	if !cut.tree {
		x.seen["no tree edge"]++
		return m
	}
	now := x.states()
	for level := cut.level; level >= 0; level-- {
		side := x.side(m, cut, level)
		for e, y := range m {
			if y.tree && y.level == level && slices.Contains(side, y.a) {
				y.level++
				m[e] = y
			}
		}
		out, in := crossing(m, side, level)
		if len(out) == 0 {
			for _, e := range in {
				m[e] = risen(m[e])
			}
			continue
		}
		x.replaced(cut.level, level, len(in))
		x.oneOf(t, m, now, out)
		someOf(m, now, in)
		return m
	}
	x.seen["none replaces it"]++
	return m
}

func (x both) replaced(cut, level, in int) {
	switch {
	case level < cut:
		x.seen["one of a lower level replaces it"]++
	case level > 0:
		x.seen["one of its own level above 0 replaces it"]++
	default:
		x.seen["one of its own level 0 replaces it"]++
	}
	if in > 0 {
		x.seen["one replaces it where others may rise"]++
	}
}

// side is the vertices of the tree whose edges rise: that of the end on whose side there are fewer, or of the first end.
func (x both) side(m map[int]state, cut state, level int) []int {
	a, b := reach(bound(m, level), cut.a), reach(bound(m, level), cut.b)
	if len(a) == len(b) && len(a) > 1 {
		x.seen["sides alike"]++
	}
	if len(b) < len(a) {
		return b
	}
	return a
}

// bound are the ends of the tree edges whose level is at least this one.
func bound(m map[int]state, level int) (l [][2]int) {
	for _, y := range m {
		if y.tree && y.level >= level {
			l = append(l, [2]int{y.a, y.b})
		}
	}
	return l
}

// crossing are the edges of a level that are no tree edges and have an end in side: those that lead out of it, and those that do not.
func crossing(m map[int]state, side []int, level int) (out, in []int) {
	for e, y := range m {
		a, b := slices.Contains(side, y.a), slices.Contains(side, y.b)
		switch {
		case y.tree || y.level != level:
		case a && b:
			in = append(in, e)
		case a || b:
			out = append(out, e)
		}
	}
	return out, in
}

func risen(y state) state {
	y.level++
	return y
}

// oneOf makes the one of some edges a tree edge that became one.
func (x both) oneOf(t *testing.T, m, now map[int]state, out []int) {
	t.Helper()
	l := slices.DeleteFunc(out, func(e int) bool { return !now[e].tree })
	if len(l) != 1 {
		t.Fatalf("%v became tree edges: want just one", l)
	}
	y := m[l[0]]
	y.tree = true
	m[l[0]] = y
}

// someOf lets those of some edges rise that did.
func someOf(m, now map[int]state, in []int) {
	for _, e := range in {
		if now[e] == risen(m[e]) {
			m[e] = now[e]
		}
	}
}

// right holds the graph against (a), (b) and (c), and what Tree tells against the tree edges.
func (x both) right(t *testing.T) {
	t.Helper()
	for e, y := range x.was {
		if y.level < 0 || y.level > x.g.Highest() {
			t.Fatalf("edge %d is of level %d", e, y.level)
		}
	}
	all := parts(x.p.vertices, slices.Collect(maps.Values(x.p.edges)))
	for level := range x.g.Highest() + 1 {
		pairs := bound(x.was, level)
		of := parts(x.p.vertices, pairs)
		if level == 0 && !maps.Equal(of, all) {
			t.Fatalf("(a): tree edges join %v, all edges %v", of, all)
		}
		x.rightLevel(t, level, of, len(pairs))
	}
}

func (x both) rightLevel(t *testing.T, level int, of map[int]int, many int) {
	t.Helper()
	sizes := map[int]int{}
	for _, first := range of {
		sizes[first]++
	}
	if len(of)-len(sizes) != many {
		t.Fatalf("%d tree edges part %d vertices into %d at level %d", many, len(of), len(sizes), level)
	}
	for e, y := range x.was {
		if !y.tree && y.level == level && of[y.a] != of[y.b] {
			t.Fatalf("(b): edge %d %v leads from tree to tree", e, y)
		}
	}
	for v, first := range of {
		if n := sizes[first]; x.g.Tree(v, level) != n || n > x.p.most>>level {
			t.Fatalf("(c): Tree(%d, %d) = %d: want %d, at most %d", v, level, x.g.Tree(v, level), n, x.p.most>>level)
		}
	}
}

// parts says for each vertex which is the least one that pairs lead to from it.
func parts(vertices map[int]plainVertex, pairs [][2]int) map[int]int {
	of := map[int]int{}
	for v := range vertices {
		of[v] = v
	}
	find := func(v int) int {
		for of[v] != v {
			v = of[v]
		}
		return v
	}
	for _, y := range pairs {
		a, b := find(y[0]), find(y[1])
		of[max(a, b)] = min(a, b)
	}
	for v := range vertices {
		of[v] = find(v)
	}
	return of
}

func (x both) like(t *testing.T) {
	t.Helper()
	like(t, x.g, x.p)
	x.right(t)
	numbers := union(odd(), slices.Collect(maps.Keys(x.p.vertices)), []int{x.p.most + 1, x.p.most + 2})
	for _, v := range numbers {
		for _, level := range wrongLevels(x.g.Highest()) {
			if n := x.g.Tree(v, level); n != 0 {
				t.Fatalf("Tree(%d, %d) = %d", v, level, n)
			}
		}
		for level := range x.g.Highest() + 1 {
			if n := x.g.Tree(v, level); (n > 0) != x.p.has(v) {
				t.Fatalf("Tree(%d, %d) = %d", v, level, n)
			}
		}
	}
}

// wrongLevels are numbers that are no level, where the highest one is known.
func wrongLevels(highest int) []int {
	return slices.DeleteFunc(append(odd(), highest+1, highest+2, 63, 64, 65, 256), func(n int) bool {
		return n >= 0 && n <= highest
	})
}
