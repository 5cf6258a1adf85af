package label_test

import (
	"iter"
	"math"
	"slices"
	"testing"

	"tidewalk/api"
	"tidewalk/cells"
	"tidewalk/label"
	"tidewalk/place"
	"tidewalk/terrain"
	"tidewalk/tile"
)

// Kinds for three classes, drawn as . , : #: some may stand on each of the first three, none of them on the last one.
const (
	classes = 3
	drawn   = ".,:#"
)

func kinds() []api.Kind {
	return []api.Kind{{Cost: 1, Mask: 1}, {Cost: 4, Mask: 6}, {Cost: api.MaxCost, Mask: 3}, {Cost: 9}}
}

// gridOf is one of a size, whose cells are all of the kind 0.
func gridOf(t *testing.T, z api.Size) *cells.Grid {
	t.Helper()
	x, e := terrain.New(kinds(), classes)
	if e != api.OK {
		t.Fatalf("no table: %d", e)
	}
	g, e := cells.New(z, x)
	if e != api.OK {
		t.Fatalf("no grid of %v: %d", z, e)
	}
	return g
}

func set(t *testing.T, g *cells.Grid, cell, kind int) {
	if _, e := g.Set(cell, kind); e != api.OK {
		t.Helper()
		t.Fatalf("Set(%d, %d): %d", cell, kind, e)
	}
}

// drawing is the grid of such rows.
func drawing(t *testing.T, rows ...string) *cells.Grid {
	t.Helper()
	z := api.Size{W: len(rows[0]), H: len(rows)}
	g := gridOf(t, z)
	for y, row := range rows {
		for x, c := range row {
			set(t, g, y*z.W+x, slices.Index([]rune(drawn), c))
		}
	}
	return g
}

// shake answers numbers below an end, the same ones for the same seed.
type shake struct{ state uint64 }

func (s *shake) below(end int) int {
	s.state = s.state*6364136223846793005 + 1442695040888963407
	return int(s.state >> 33 % uint64(end))
}

// scatter makes all cells of kinds that come at odds.
func scatter(t *testing.T, g *cells.Grid, s *shake, odds ...int) {
	t.Helper()
	var bag []int
	for kind, many := range odds {
		bag = append(bag, slices.Repeat([]int{kind}, many)...)
	}
	for cell := range place.Cells(g.Size()) {
		set(t, g, cell, bag[s.below(len(bag))])
	}
}

// oddsOf are some ways in which kinds may be mixed: mostly open, mostly closed, about where ways wind most.
func oddsOf() [][]int {
	return [][]int{{1, 1, 1, 1}, {6, 1, 2, 1}, {1, 1, 0, 6}, {3, 0, 0, 2}, {0, 3, 3, 4}, {1, 0, 1, 0}}
}

// plain is what a grid is, asked cell by cell.
type plain struct {
	z     api.Size
	kinds []int
}

func plainOf(g *cells.Grid) *plain {
	p := &plain{z: g.Size()}
	for cell := range p.z.W * p.z.H {
		kind, _ := g.Get(cell)
		p.kinds = append(p.kinds, kind)
	}
	return p
}

func (p *plain) has(cell int) bool { return 0 <= cell && cell < len(p.kinds) }

func (p *plain) may(class, cell int) bool {
	return p.has(cell) && 0 <= class && class < classes && kinds()[p.kinds[cell]].Mask>>class&1 == 1
}

func (p *plain) tile(cell int) int {
	return cell/p.z.W/8*((p.z.W+7)/8) + cell%p.z.W/8
}

// near are the cells of the grid that are a row or a column away, not both.
func (p *plain) near(cell int) []int {
	var l []int
	for row := -1; row <= 1; row++ {
		for column := -1; column <= 1; column++ {
			x, y := cell%p.z.W+column, cell/p.z.W+row
			if (row == 0) != (column == 0) && p.has(cell) && 0 <= x && x < p.z.W && 0 <= y && y < p.z.H {
				l = append(l, y*p.z.W+x)
			}
		}
	}
	return l
}

// names goes over all cells, till each has the least number of those that it hangs together with in its tile; -1 of what is closed.
func (p *plain) names(class int) []int {
	l := make([]int, len(p.kinds))
	for cell := range l {
		l[cell] = -1
		if p.may(class, cell) {
			l[cell] = cell
		}
	}
	for changed := true; changed; {
		changed = false
		for cell := range l {
			for _, other := range p.near(cell) {
				if l[cell] > l[other] && l[other] >= 0 && p.tile(cell) == p.tile(other) {
					l[cell] = l[other]
					changed = true
				}
			}
		}
	}
	return l
}

// regions are those of all tiles, tile by tile.
func (p *plain) regions(class int) [][][]int {
	names := p.names(class)
	lists := map[int][]int{}
	for cell, name := range names {
		lists[name] = append(lists[name], cell)
	}
	all := make([][][]int, (p.z.W+7)/8*((p.z.H+7)/8))
	for cell, name := range names {
		if name == cell {
			all[p.tile(cell)] = append(all[p.tile(cell)], lists[name])
		}
	}
	return all
}

// pair is a cell, and one beside it in another tile.
type pair struct{ cell, other int }

func (p *plain) pairs(class int, list []int) []pair {
	var l []pair
	for _, cell := range list {
		for _, other := range p.near(cell) {
			if p.tile(cell) != p.tile(other) && p.may(class, other) {
				l = append(l, pair{cell, other})
			}
		}
	}
	return l
}

// Sides about the first few multiples of 8.
func smallSizes() []api.Size {
	sides := []int{1, 2, 7, 8, 9, 16, 17, 23}
	var l []api.Size
	for _, w := range sides {
		for _, h := range sides {
			l = append(l, api.Size{W: w, H: h})
		}
	}
	return l
}

// odd are numbers of none, where there are so many from 0 on; some fall on one when they are cut short to 32 bits.
func odd(many int) []int {
	return []int{-1, -2, -8, -many, -many - 1, many, many + 1, many + 8, 2*many + 1, 1 << 31, 1 << 32, 1<<32 + many - 1, -1 << 32, many - 1 - 1<<32,
		1 << 35, 1 << 62, math.MaxInt, math.MaxInt - 1, math.MaxInt - 7, math.MinInt, math.MinInt + 1}
}

func sameLists(a, b [][]int) bool { return slices.EqualFunc(a, b, slices.Equal[[]int]) }

func labels(t *testing.T, g *cells.Grid, class, i int, want ...[]int) {
	if got := label.Label(g, class, i); !sameLists(got, want) {
		t.Helper()
		t.Errorf("%v: Label(%d, %d) = %v: want %v", g.Size(), class, i, got, want)
	}
}

func isOf(t *testing.T, g *cells.Grid, class, cell int, want ...int) {
	if got := label.Of(g, class, cell); !slices.Equal(got, want) {
		t.Helper()
		t.Errorf("%v: Of(%d, %d) = %v: want %v", g.Size(), class, cell, got, want)
	}
}

func collect(s iter.Seq2[int, int]) []pair {
	var l []pair
	for cell, other := range s {
		l = append(l, pair{cell, other})
	}
	return l
}

func borders(t *testing.T, g *cells.Grid, class int, list []int, want ...pair) {
	if got := collect(label.Borders(g, class, list)); !slices.Equal(got, want) {
		t.Helper()
		t.Errorf("%v: Borders(%d, %v) = %v: want %v", g.Size(), class, list, got, want)
	}
}

// holds a grid against what goes over all its cells.
func holds(t *testing.T, g *cells.Grid) {
	p := plainOf(g)
	for class := range classes {
		in := map[int][]int{}
		for i, regions := range p.regions(class) {
			labels(t, g, class, i, regions...)
			for _, region := range regions {
				borders(t, g, class, region, p.pairs(class, region)...)
				for _, cell := range region {
					in[cell] = region
				}
			}
		}
		for cell := range p.kinds {
			isOf(t, g, class, cell, in[cell]...)
		}
	}
}

// everything is what is told of a grid: all regions, and their pairs, of all classes.
func everything(g *cells.Grid) (regions [][]int, pairs []pair) {
	for class := range classes {
		for i := range tile.Count(g.Size()) {
			for _, region := range label.Label(g, class, i) {
				regions = append(regions, region)
				pairs = append(pairs, collect(label.Borders(g, class, region))...)
			}
		}
	}
	return regions, pairs
}

func span(first, last int) []int {
	var l []int
	for n := first; n <= last; n++ {
		l = append(l, n)
	}
	return l
}
