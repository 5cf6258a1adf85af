package levels

// edge is what an edge has: its ends, as they were handed in, its level, and whether it is a tree edge.
type edge struct {
	a, b, level int
	tree        bool
}

func (x edge) ends() [2]int { return [2]int{x.a, x.b} }

// mark stands, in the forest of each level, at the tree edges of just that level, and at the vertices at which loose edges of just that level stand: so a search finds them among all others.
const mark = 1

func (g *Graph) put(e, a, b int) {
	x := edge{a: a, b: b, tree: !g.Connected(a, b)}
	g.edges[e] = x
	if x.tree {
		g.link(e, x, 0)
	} else {
		g.putLoose(e, x)
	}
}

// link puts a tree edge into the forest of a level.
func (g *Graph) link(e int, x edge, level int) {
	f := g.forests[level]
	for _, v := range x.ends() {
		// A vertex that is there already stays as it is; at level 0, where sums and ranks are told, all are.
		f.Add(v, 0, 0)
	}
	f.Link(e, x.a, x.b)
	if level == x.level {
		f.MarkEdge(e, mark)
	}
}

// cut takes a tree edge out of all forests.
func (g *Graph) cut(e int, x edge) {
	for _, f := range g.forests[:x.level+1] {
		f.Cut(e)
	}
}

// leave takes the ends of an edge that was cut out of the forests above level 0 in which they have no edge any more. One that still has edges there is not dropped.
func (g *Graph) leave(x edge) {
	for _, f := range g.forests[1 : x.level+1] {
		f.Drop(x.a)
		f.Drop(x.b)
	}
}

func (g *Graph) putLoose(e int, x edge) {
	for _, v := range x.ends() {
		g.loose.Put(v, x.level, e)
		if g.loose.Many(v, x.level) == 1 {
			g.forests[x.level].Mark(v, mark)
		}
	}
}

func (g *Graph) takeLoose(e int, x edge) {
	for _, v := range x.ends() {
		g.loose.Take(v, x.level, e)
		if g.loose.Many(v, x.level) == 0 {
			g.forests[x.level].Mark(v, 0)
		}
	}
}
