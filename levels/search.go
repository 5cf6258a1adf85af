package levels

// rejoin looks for an edge that joins the two sides of one that was cut.
//
// A level above the highest is never reached: a tree of level i has at most n / 2^i vertices, so the lesser of the two sides of one of the last level but one is a vertex alone, and has no edge within it that could rise.
func (g *Graph) rejoin(gone edge) {
search:
	for level := gone.level; level >= 0; level-- {
		side := g.lesser(gone, level)
		g.riseTree(side, level)
		for {
			v, ok := g.forests[level].FindVertex(side, mark)
			if !ok {
				continue search
			}
			for e := range g.loose.Of(v, level) {
				if g.leads(e, level) {
					g.bind(e)
					break search
				}
				g.riseLoose(e)
			}
		}
	}
}

// lesser is the end of a cut edge whose side has fewer vertices at a level; the first one, if they are alike.
func (g *Graph) lesser(gone edge, level int) int {
	f := g.forests[level]
	if f.Size(gone.b) < f.Size(gone.a) {
		return gone.b
	}
	return gone.a
}

// leads says whether a loose edge of a level leads from one side to the other.
func (g *Graph) leads(e, level int) bool {
	x := g.edges[e]
	return !g.forests[level].Same(x.a, x.b)
}

// bind makes a loose edge a tree edge.
func (g *Graph) bind(e int) {
	x := g.edges[e]
	g.takeLoose(e, x)
	x.tree = true
	g.edges[e] = x
	for level := range x.level + 1 {
		g.link(e, x, level)
	}
}

// riseTree makes the tree edges rise that are of just that level, in the tree of a vertex.
func (g *Graph) riseTree(v, level int) {
	f := g.forests[level]
	for e, ok := f.FindEdge(v, mark); ok; e, ok = f.FindEdge(v, mark) {
		f.MarkEdge(e, 0)
		x := g.rise(e)
		g.link(e, x, x.level)
	}
}

func (g *Graph) riseLoose(e int) {
	g.takeLoose(e, g.edges[e])
	g.putLoose(e, g.rise(e))
}

// rise gives an edge the next level, and is what the edge has then.
func (g *Graph) rise(e int) edge {
	x := g.edges[e]
	x.level++
	g.edges[e] = x
	return x
}
