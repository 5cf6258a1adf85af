package label_test

import (
	"iter"
	"slices"
	"testing"

	"tidewalk/api"
	"tidewalk/cells"
	"tidewalk/label"
	"tidewalk/place"
	"tidewalk/tile"
)

// P13.1, P13.2

func TestAsAllCellsTell(t *testing.T) {
	s := &shake{state: 5}
	for _, z := range smallSizes() {
		for _, odds := range oddsOf() {
			g := gridOf(t, z)
			scatter(t, g, s, odds...)
			holds(t, g)
		}
		if t.Failed() {
			return
		}
	}
}

// Each edit is a cell; what is told goes with it.
func TestAsAllCellsTellWhileCellsChange(t *testing.T) {
	s := &shake{state: 9}
	g := gridOf(t, api.Size{W: 19, H: 11})
	for range 150 {
		set(t, g, s.below(19*11), s.below(4))
		holds(t, g)
	}
}

func TestGreatestSizes(t *testing.T) {
	s := &shake{state: 3}
	for _, z := range []api.Size{{W: api.MaxSide, H: 1}, {W: 1, H: api.MaxSide}, {W: api.MaxSide - 1, H: 9}, {W: 10, H: api.MaxSide - 3}} {
		g := gridOf(t, z)
		scatter(t, g, s, 4, 1, 1, 2)
		holds(t, g)
	}
}

// The last tiles of grids with as many cells as may be, of which all are open but those of one row.
func TestMostCells(t *testing.T) {
	for _, z := range []api.Size{{W: 2048, H: 2048}, {W: api.MaxSide, H: 1024}, {W: 1024, H: api.MaxSide}} {
		g := gridOf(t, z)
		if _, e := g.Fill(0, z.H-4, z.W, 1, 3); e != api.OK {
			t.Fatal(e)
		}
		var upper, lower []int
		for y := range 4 {
			row := (z.H - 8 + y) * z.W
			upper = append(upper, span(row+z.W-8, row+z.W-1)...)
		}
		for y := range 3 {
			row := (z.H - 3 + y) * z.W
			lower = append(lower, span(row+z.W-8, row+z.W-1)...)
		}
		labels(t, g, 0, tile.Count(z)-1, upper, lower)
		labels(t, g, 1, tile.Count(z)-1)
		isOf(t, g, 0, api.MaxCells-1, lower...)
		isOf(t, g, 0, api.MaxCells-1-3*z.W)
		isOf(t, g, 0, upper[31], upper...)
		at := func(column, row int) int { return row*z.W + column }
		borders(t, g, 0, lower,
			pair{at(z.W-8, z.H-3), at(z.W-9, z.H-3)}, pair{at(z.W-8, z.H-2), at(z.W-9, z.H-2)}, pair{at(z.W-8, z.H-1), at(z.W-9, z.H-1)})
		borders(t, g, 0, upper[:9], append(append(
			[]pair{{at(z.W-8, z.H-8), at(z.W-8, z.H-9)}, {at(z.W-8, z.H-8), at(z.W-9, z.H-8)}},
			columns(z, z.W-7, z.W-1, z.H-8, z.H-9)...),
			pair{at(z.W-8, z.H-7), at(z.W-9, z.H-7)})...)
	}
}

// columns are pairs of cells of two rows, column by column.
func columns(z api.Size, first, last, row, other int) []pair {
	var l []pair
	for x := first; x <= last; x++ {
		l = append(l, pair{row*z.W + x, other*z.W + x})
	}
	return l
}

// P13.1

// A way from the first cell inward, over all turns; what is between is closed.
func TestARegionThatWindsInward(t *testing.T) {
	g := drawing(t,
		"........",
		"#######.",
		"......#.",
		".####.#.",
		".#..#.#.",
		".##.#.#.",
		".####.#.",
		".####...")
	all := []int{0, 1, 2, 3, 4, 5, 6, 7, 15, 16, 17, 18, 19, 20, 21, 23, 24, 29, 31, 32, 37, 39, 40, 45, 47, 48, 53, 55, 56, 61, 62, 63}
	inner := []int{34, 35, 43}
	labels(t, g, 0, 0, all, inner)
	for _, cell := range all {
		isOf(t, g, 0, cell, all...)
	}
	for _, cell := range inner {
		isOf(t, g, 0, cell, inner...)
	}
}

// Two combs, whose teeth reach between one another's, and whose least cells lie far from where their backs join them.
func TestRegionsThatReachIntoOneAnother(t *testing.T) {
	g := drawing(t,
		".#.#.#.#",
		".#.#.#.#",
		".#.#.#.#",
		".......#",
		"########",
		"#.......",
		"#.#.#.#.",
		"#.#.#.#.")
	labels(t, g, 0, 0,
		[]int{0, 2, 4, 6, 8, 10, 12, 14, 16, 18, 20, 22, 24, 25, 26, 27, 28, 29, 30},
		[]int{41, 42, 43, 44, 45, 46, 47, 49, 51, 53, 55, 57, 59, 61, 63})
}

// The name is the least cell, though its way to the cell that lies first in the next row leads through the last row.
func TestAWayThroughTheLastRow(t *testing.T) {
	g := drawing(t,
		"###.####",
		".##.##.#",
		".##.##.#",
		".##.##.#",
		".##.##.#",
		".##.##.#",
		".##.##.#",
		".......#")
	all := slices.Concat([]int{3, 8, 11, 14, 16, 19, 22, 24, 27, 30, 32, 35, 38, 40, 43, 46, 48, 51, 54}, span(56, 62))
	labels(t, g, 0, 0, all)
	isOf(t, g, 0, 3, all...)
	isOf(t, g, 0, 8, all...)
	isOf(t, g, 0, 62, all...)
}

// Cells that meet at their corners are not beside one another.
func TestACellEach(t *testing.T) {
	rows := []string{".#.#.#.#", "#.#.#.#."}
	g := drawing(t, slices.Repeat(rows, 4)...)
	var alone [][]int
	for cell := range 64 {
		if (cell/8+cell%8)%2 == 0 {
			alone = append(alone, []int{cell})
			isOf(t, g, 0, cell, cell)
		} else {
			isOf(t, g, 0, cell)
		}
	}
	labels(t, g, 0, 0, alone...)
}

// The last cell of a row is not beside the first one of the next row, though their numbers are.
func TestRowsDoNotWrapRound(t *testing.T) {
	labels(t, drawing(t, "#######.", ".#######", "#######."), 0, 0, []int{7}, []int{8}, []int{23})
	labels(t, drawing(t, "##.", ".##", "##.", ".##"), 0, 0, []int{2}, []int{3}, []int{8}, []int{9})
	labels(t, drawing(t, "#.", ".#"), 0, 0, []int{1}, []int{2})
}

// A region within a ring, and one around both.
func TestRegionsWithinRegions(t *testing.T) {
	g := drawing(t,
		"........",
		".######.",
		".#....#.",
		".#.##.#.",
		".#.##.#.",
		".#....#.",
		".######.",
		"........")
	outer := slices.Concat(span(0, 8), []int{15, 16, 23, 24, 31, 32, 39, 40, 47, 48}, span(55, 63))
	labels(t, g, 0, 0, outer, []int{18, 19, 20, 21, 26, 29, 34, 37, 42, 43, 44, 45})
	set(t, g, 27, 0)
	labels(t, g, 0, 0, outer, []int{18, 19, 20, 21, 26, 27, 29, 34, 37, 42, 43, 44, 45})
	// A door makes one of both.
	set(t, g, 10, 2)
	labels(t, g, 0, 0, slices.Concat(span(0, 8), []int{10}, span(15, 16), span(18, 21), span(23, 24), span(26, 27), []int{29},
		span(31, 32), []int{34, 37, 39, 40, 42, 43, 44, 45, 47, 48}, span(55, 63)))
}

// 0 and 20 are joined through the tile at the right alone, 70 and 72 through the tile below.
func TestCellsJoinedOutsideTheTileAlone(t *testing.T) {
	g := drawing(t,
		"..........",
		"########..",
		"..........",
		"########.#",
		"########.#",
		".#######.#",
		".#######.#",
		".#.#####.#",
		"...#......")
	labels(t, g, 0, 0, span(0, 7), span(20, 27), []int{50, 60, 70}, []int{72})
	isOf(t, g, 0, 7, span(0, 7)...)
	isOf(t, g, 0, 20, span(20, 27)...)
	isOf(t, g, 0, 70, 50, 60, 70)
	isOf(t, g, 0, 72, 72)
	labels(t, g, 0, 1, []int{8, 9, 18, 19, 28, 29, 38, 48, 58, 68, 78})
	labels(t, g, 0, 2, []int{80, 81, 82}, span(84, 87))
	labels(t, g, 0, 3, []int{88, 89})
	// Doors within the tile.
	set(t, g, 15, 2)
	set(t, g, 71, 2)
	labels(t, g, 0, 0, slices.Concat(span(0, 7), []int{15}, span(20, 27)), []int{50, 60, 70, 71, 72})
}

// Tiles of two columns, of three rows, and of both.
func TestTilesAtTheRightAndTheBottom(t *testing.T) {
	rows := slices.Repeat([]string{"..........", "#########."}, 5)
	g := drawing(t, append(rows, ".#......#.")...)
	labels(t, g, 0, 0, span(0, 7), span(20, 27), span(40, 47), span(60, 67))
	labels(t, g, 0, 1, []int{8, 9, 19, 28, 29, 39, 48, 49, 59, 68, 69, 79})
	labels(t, g, 0, 2, span(80, 87), []int{100}, span(102, 107))
	labels(t, g, 0, 3, []int{88, 89, 99, 109})
	isOf(t, g, 0, 109, 88, 89, 99, 109)
	isOf(t, g, 0, 108)
	isOf(t, g, 0, 100, 100)
}

func TestATileWithoutACellToStandOn(t *testing.T) {
	g := gridOf(t, api.Size{W: 20, H: 10})
	for cell := range tile.Cells(g.Size(), 1) {
		set(t, g, cell, 3)
	}
	for i := range 6 {
		all := slices.Collect(tile.Cells(g.Size(), i))
		if i != 1 {
			labels(t, g, 0, i, all)
		}
		// No class but 0 may stand on the kind 0.
		labels(t, g, 1, i)
		labels(t, g, 2, i)
		for _, cell := range all {
			isOf(t, g, 1, cell)
		}
	}
	labels(t, g, 0, 1)
	isOf(t, g, 0, 8)
	isOf(t, g, 0, 155)
}

func TestTilesWhollyOpen(t *testing.T) {
	for _, z := range smallSizes() {
		g := gridOf(t, z)
		for i := range tile.Count(z) {
			all := slices.Collect(tile.Cells(z, i))
			labels(t, g, 0, i, all)
			for _, cell := range all {
				isOf(t, g, 0, cell, all...)
			}
		}
	}
}

func TestGridsOfOneRowOneColumnOneCell(t *testing.T) {
	row := drawing(t, ".#..#..:.,::.#...")
	labels(t, row, 0, 0, []int{0}, []int{2, 3}, []int{5, 6, 7})
	labels(t, row, 0, 1, []int{8}, []int{10, 11, 12}, []int{14, 15})
	labels(t, row, 0, 2, []int{16})
	labels(t, row, 1, 0, []int{7})
	labels(t, row, 1, 1, []int{9, 10, 11})
	labels(t, row, 1, 2)
	labels(t, row, 2, 1, []int{9})
	column := drawing(t, ".", ".", "#", ".", ".", ".", ".", ".", ".", ".", "#", ".")
	labels(t, column, 0, 0, []int{0, 1}, span(3, 7))
	labels(t, column, 0, 1, []int{8, 9}, []int{11})
	isOf(t, column, 0, 7, span(3, 7)...)
	isOf(t, column, 0, 8, 8, 9)
	cell := drawing(t, ".")
	labels(t, cell, 0, 0, []int{0})
	labels(t, cell, 1, 0)
	isOf(t, cell, 0, 0, 0)
	isOf(t, cell, 1, 0)
	set(t, cell, 0, 3)
	labels(t, cell, 0, 0)
	isOf(t, cell, 0, 0)
}

// Kinds do not part a region: a class may stand on several, and each class has regions of its own.
func TestEachClassHasItsOwn(t *testing.T) {
	g := drawing(t,
		"..:,,:#.",
		"::#,:...")
	labels(t, g, 0, 0, []int{0, 1, 2, 8, 9}, []int{5, 7, 12, 13, 14, 15})
	labels(t, g, 1, 0, []int{2, 3, 4, 5, 11, 12}, []int{8, 9})
	labels(t, g, 2, 0, []int{3, 4, 11})
	isOf(t, g, 0, 5, 5, 7, 12, 13, 14, 15)
	isOf(t, g, 1, 5, 2, 3, 4, 5, 11, 12)
	isOf(t, g, 2, 5)
}

// Names rise, and so do a region's cells, whose first one is the name.
func TestNamesAndCellsRise(t *testing.T) {
	s := &shake{state: 21}
	for _, odds := range oddsOf() {
		g := gridOf(t, api.Size{W: 37, H: 29})
		scatter(t, g, s, odds...)
		for class := range classes {
			for i := range tile.Count(g.Size()) {
				last := -1
				for _, region := range label.Label(g, class, i) {
					if len(region) == 0 {
						t.Fatalf("Label(%d, %d) has a region without cells", class, i)
					}
					if region[0] <= last || !rises(region) || slices.Min(region) != region[0] {
						t.Errorf("Label(%d, %d) tells %v behind %d", class, i, region, last)
					}
					last = region[0]
					for _, cell := range region {
						isOf(t, g, class, cell, region...)
					}
				}
			}
		}
	}
}

func rises(l []int) bool {
	for n := 1; n < len(l); n++ {
		if l[n-1] >= l[n] {
			return false
		}
	}
	return true
}

func TestNoSuchTileClassOrCell(t *testing.T) {
	for _, z := range []api.Size{{W: 1, H: 1}, {W: 20, H: 10}, {W: 8, H: 8}, {W: 4096, H: 1024}} {
		g := gridOf(t, z)
		many := tile.Count(z)
		for _, i := range odd(many) {
			labels(t, g, 0, i)
			for _, class := range odd(classes) {
				labels(t, g, class, i)
			}
		}
		for _, class := range odd(classes) {
			labels(t, g, class, 0)
			labels(t, g, class, many-1)
			isOf(t, g, class, 0)
			isOf(t, g, class, z.W*z.H-1)
			borders(t, g, class, span(0, 9))
			for _, cell := range odd(z.W * z.H) {
				isOf(t, g, class, cell)
			}
		}
		for _, cell := range odd(z.W * z.H) {
			isOf(t, g, 0, cell)
			borders(t, g, 0, []int{cell})
		}
	}
	// Cells that there are, and that are no tiles.
	g := gridOf(t, api.Size{W: 20, H: 10})
	for i := 6; i < 200; i++ {
		labels(t, g, 0, i)
	}
}

// Classes of which a kind's mask could have a bit, and of which the table has none.
func TestClassesBeyondTheTable(t *testing.T) {
	g := drawing(t, "..,,::...,", "..........")
	for class := classes; class < 70; class++ {
		labels(t, g, class, 0)
		isOf(t, g, class, 2)
		borders(t, g, class, []int{7, 8})
	}
}

func TestGridsThatNewDidNotMake(t *testing.T) {
	for _, g := range []*cells.Grid{nil, {}, (*cells.Grid)(nil).Twin(), (&cells.Grid{}).Twin()} {
		for _, n := range append(odd(1), 0, 1, 2, 7) {
			labels(t, g, 0, n)
			labels(t, g, n, 0)
			labels(t, g, n, n)
			isOf(t, g, 0, n)
			isOf(t, g, n, 0)
			borders(t, g, 0, []int{n, 0, 1})
			borders(t, g, n, []int{0, 7, 8})
		}
		borders(t, g, 0, nil)
	}
}

// P13.2

// At the corners of tiles a cell has two pairs: above comes ahead of left, left and right ahead of below.
func TestBordersAtCorners(t *testing.T) {
	g := gridOf(t, api.Size{W: 17, H: 18})
	at := func(x, y int) int { return y*17 + x }
	for _, x := range []struct {
		cell int
		want []pair
	}{
		{at(7, 7), []pair{{at(7, 7), at(8, 7)}, {at(7, 7), at(7, 8)}}},
		{at(8, 7), []pair{{at(8, 7), at(7, 7)}, {at(8, 7), at(8, 8)}}},
		{at(7, 8), []pair{{at(7, 8), at(7, 7)}, {at(7, 8), at(8, 8)}}},
		{at(8, 8), []pair{{at(8, 8), at(8, 7)}, {at(8, 8), at(7, 8)}}},
		{at(16, 16), []pair{{at(16, 16), at(16, 15)}, {at(16, 16), at(15, 16)}}},
		{at(15, 15), []pair{{at(15, 15), at(16, 15)}, {at(15, 15), at(15, 16)}}},
		{at(16, 17), []pair{{at(16, 17), at(15, 17)}}},
		{at(16, 0), []pair{{at(16, 0), at(15, 0)}}},
		{at(3, 7), []pair{{at(3, 7), at(3, 8)}}},
		{at(3, 8), []pair{{at(3, 8), at(3, 7)}}},
		{at(7, 3), []pair{{at(7, 3), at(8, 3)}}},
		{at(8, 3), []pair{{at(8, 3), at(7, 3)}}},
		{at(0, 0), nil},
		{at(4, 4), nil},
		{at(9, 9), nil},
		{at(0, 17), nil},
		{at(14, 14), nil},
	} {
		borders(t, g, 0, []int{x.cell}, x.want...)
	}
}

// The last column's cells have none at the right, though the next number is a cell of another tile.
func TestBordersDoNotWrapRound(t *testing.T) {
	g := gridOf(t, api.Size{W: 16, H: 9})
	borders(t, g, 0, []int{15, 16, 31, 32, 127, 128}, pair{127, 143}, pair{128, 112})
	borders(t, gridOf(t, api.Size{W: 8, H: 3}), 0, span(0, 23))
	borders(t, gridOf(t, api.Size{W: 1, H: 17}), 0, span(0, 16), pair{7, 8}, pair{8, 7}, pair{15, 16}, pair{16, 15})
	borders(t, gridOf(t, api.Size{W: 17, H: 1}), 0, span(0, 16), pair{7, 8}, pair{8, 7}, pair{15, 16}, pair{16, 15})
	borders(t, gridOf(t, api.Size{W: 1, H: 1}), 0, []int{0})
}

// The other cell must be one to stand on, for the class that is asked for.
func TestBordersWithClosedCellsBeyond(t *testing.T) {
	g := drawing(t,
		".......:,.",
		".......:#.",
		".......:..",
		".......::.")
	column := []int{7, 17, 27, 37}
	borders(t, g, 0, column, pair{27, 28}, pair{37, 38})
	borders(t, g, 1, column, pair{7, 8}, pair{37, 38})
	borders(t, g, 2, column, pair{7, 8})
	borders(t, g, 0, label.Of(g, 0, 0), pair{27, 28}, pair{37, 38})
	borders(t, g, 1, label.Of(g, 1, 37), pair{7, 8}, pair{37, 38})
	borders(t, g, 0, label.Of(g, 0, 9), pair{28, 27}, pair{38, 37})
	borders(t, g, 1, label.Of(g, 1, 38), pair{38, 37})
}

func TestBordersInTheOrderOfTheList(t *testing.T) {
	g := gridOf(t, api.Size{W: 16, H: 16})
	borders(t, g, 0, []int{119, 7, 112}, pair{119, 120}, pair{119, 135}, pair{7, 8}, pair{112, 128})
	borders(t, g, 0, []int{112, 7, 119}, pair{112, 128}, pair{7, 8}, pair{119, 120}, pair{119, 135})
	borders(t, g, 0, []int{7, 0, 112, 50, 119}, pair{7, 8}, pair{112, 128}, pair{119, 120}, pair{119, 135})
	all := label.Of(g, 0, 255)
	rising := collect(label.Borders(g, 0, all))
	slices.Reverse(all)
	p := plainOf(g)
	borders(t, g, 0, all, p.pairs(0, all)...)
	if falling := p.pairs(0, all); len(falling) != 16 || slices.Equal(falling, rising) {
		t.Errorf("%v falling, %v rising", falling, rising)
	}
}

// Lists that are no region: a cell twice, cells of several tiles, cells on which the class may not stand, and what is no cell.
func TestBordersOfWhateverStandsInTheList(t *testing.T) {
	g := drawing(t,
		".......#.:",
		"#######...",
		".......,..")
	borders(t, g, 0, nil)
	borders(t, g, 0, []int{})
	borders(t, g, 0, []int{17, 17}, pair{17, 18}, pair{17, 18})
	borders(t, g, 0, []int{17, 18, 17}, pair{17, 18}, pair{18, 17}, pair{17, 18})
	borders(t, g, 0, []int{28, 18, 8, 27, 17, 7}, pair{18, 17}, pair{27, 28}, pair{17, 18}, pair{7, 8})
	borders(t, g, 1, []int{28, 18, 8, 27, 17, 7}, pair{28, 27})
	borders(t, g, 2, []int{28, 18, 8, 27, 17, 7}, pair{28, 27})
	borders(t, g, 0, []int{-1, 17, 30, -3, 7, 40, 1<<32 + 17, 18}, pair{17, 18}, pair{7, 8}, pair{18, 17})
	borders(t, g, 0, append(odd(30), 17), pair{17, 18})
	borders(t, g, 0, append([]int{17}, odd(30)...), pair{17, 18})
	for cell := range 30 {
		borders(t, g, 3, []int{cell, cell})
	}
}

func TestBordersOfShakenLists(t *testing.T) {
	s := &shake{state: 77}
	for _, z := range []api.Size{{W: 20, H: 10}, {W: 9, H: 9}, {W: 1, H: 30}, {W: 30, H: 1}, {W: 16, H: 16}} {
		g := gridOf(t, z)
		scatter(t, g, s, 3, 2, 2, 2)
		p := plainOf(g)
		many := z.W * z.H
		none := odd(many)
		for range 300 {
			var list []int
			for range s.below(40) {
				cell := s.below(many)
				if s.below(5) == 0 {
					cell = none[s.below(len(none))]
				}
				list = append(list, slices.Repeat([]int{cell}, 1+s.below(3)/2)...)
			}
			for class := -1; class <= classes; class++ {
				borders(t, g, class, list, p.pairs(class, list)...)
			}
		}
	}
}

// Many cells of a great grid, all of them twice, the second time falling.
func TestBordersOfALongList(t *testing.T) {
	g := gridOf(t, api.Size{W: 1024, H: 512})
	list := span(0, 1024*512-1)
	falling := slices.Clone(list)
	slices.Reverse(falling)
	list = append(list, falling...)
	if got, want := collect(label.Borders(g, 0, list)), plainOf(g).pairs(0, list); !slices.Equal(got, want) {
		t.Errorf("%d pairs, want %d", len(got), len(want))
	}
}

// halves is a grid of two tiles, of which each row has a pair each way.
func halves(t *testing.T) *cells.Grid {
	t.Helper()
	return gridOf(t, api.Size{W: 16, H: 8})
}

func TestWalksLeftEarly(t *testing.T) {
	g := halves(t)
	s := label.Borders(g, 0, span(0, 127))
	whole := collect(s)
	if len(whole) != 16 {
		t.Fatalf("%v", whole)
	}
	for many := 1; many <= len(whole); many++ {
		var got []pair
		for cell, other := range s {
			got = append(got, pair{cell, other})
			if len(got) == many {
				break
			}
		}
		if !slices.Equal(got, whole[:many]) {
			t.Errorf("left behind %d: %v", many, got)
		}
	}
}

// One walk is gone through again, behind a whole one and behind one that was left.
func TestAWalkGoneThroughTwice(t *testing.T) {
	g := halves(t)
	for _, list := range [][]int{nil, {-1, 128}, span(0, 127), label.Of(g, 0, 9)} {
		s := label.Borders(g, 0, list)
		whole := collect(s)
		for range s {
			break
		}
		if again := collect(s); !slices.Equal(again, whole) {
			t.Errorf("%v, then %v", whole, again)
		}
	}
}

// Two goings through one walk are gone on with by turns, the one two ahead of the other.
func TestAWalkGoneOnWithByTurns(t *testing.T) {
	s := label.Borders(halves(t), 0, span(0, 127))
	whole := collect(s)
	ahead, leave := iter.Pull2(s)
	behind, leaveToo := iter.Pull2(s)
	ahead()
	ahead()
	var got []pair
	for cell, other, ok := behind(); ok; cell, other, ok = behind() {
		got = append(got, pair{cell, other})
		ahead()
	}
	leave()
	leaveToo()
	if !slices.Equal(got, whole) {
		t.Errorf("%v: want %v", got, whole)
	}
}

// Within a walk the same one, and those of the regions to which it leads.
func TestWalksWithinWalks(t *testing.T) {
	s := &shake{state: 13}
	g := gridOf(t, api.Size{W: 24, H: 17})
	scatter(t, g, s, 5, 1, 1, 1)
	p := plainOf(g)
	middle := slices.Collect(tile.Cells(g.Size(), 4))
	want := p.pairs(0, middle)
	walk := label.Borders(g, 0, middle)
	var got []pair
	for cell, other := range walk {
		got = append(got, pair{cell, other})
		if inner := collect(walk); !slices.Equal(inner, want) {
			t.Errorf("within its own walk: %v", inner)
		}
		region := label.Of(g, 0, other)
		borders(t, g, 0, region, p.pairs(0, region)...)
	}
	if len(want) < 10 || !slices.Equal(got, want) {
		t.Errorf("around others: %v: want %v", got, want)
	}
}

// P13.3

// Regions are cells to stand on, each in just one of them, with ways within and no further cell beside one of them.
func TestEachCellIsInJustOneRegion(t *testing.T) {
	s := &shake{state: 8}
	for _, z := range append(smallSizes(), api.Size{W: 60, H: 45}) {
		g := gridOf(t, z)
		scatter(t, g, s, 4, 2, 1, 3)
		for class := range classes {
			in := make([]int, place.Cells(z))
			for i := range tile.Count(z) {
				for _, region := range label.Label(g, class, i) {
					hangsTogether(t, g, class, i, region)
					for _, cell := range region {
						in[cell]++
					}
				}
			}
			for cell, many := range in {
				if g.May(class, cell) != (many == 1) || many > 1 {
					t.Fatalf("%v: the cell %d is in %d regions of class %d", z, cell, many, class)
				}
			}
		}
	}
}

func hangsTogether(t *testing.T, g *cells.Grid, class, i int, region []int) {
	t.Helper()
	z := g.Size()
	reached := region[:1:1]
	for n := 0; n < len(reached); n++ {
		for other := range place.Near(z, reached[n]) {
			if at, _ := tile.Of(z, other); at != i || !g.May(class, other) {
				continue
			}
			if !slices.Contains(region, other) {
				t.Errorf("%v: beside %d is %d, which is not in %v", z, reached[n], other, region)
			}
			if !slices.Contains(reached, other) {
				reached = append(reached, other)
			}
		}
	}
	if len(reached) != len(region) {
		t.Errorf("%v: in %v there are ways from the first cell to %v alone", z, region, reached)
	}
	for _, cell := range region {
		if at, _ := tile.Of(z, cell); at != i || !g.May(class, cell) {
			t.Errorf("%v: %d is in a region of the tile %d for class %d", z, cell, i, class)
		}
	}
}

// All cells of all other tiles change, and nothing that is told of this one does.
func TestATileHangsOnItsOwnCellsAlone(t *testing.T) {
	s := &shake{state: 30}
	z := api.Size{W: 20, H: 19}
	for i := range tile.Count(z) {
		g := gridOf(t, z)
		scatter(t, g, s, 4, 1, 1, 2)
		own := slices.Collect(tile.Cells(z, i))
		before := g.Twin()
		for _, odds := range append(oddsOf(), []int{0, 0, 0, 1}, []int{1}) {
			scatter(t, g, s, odds...)
			for _, cell := range own {
				kind, _ := before.Get(cell)
				set(t, g, cell, kind)
			}
			for class := range classes {
				labels(t, g, class, i, label.Label(before, class, i)...)
				for _, cell := range own {
					isOf(t, g, class, cell, label.Of(before, class, cell)...)
				}
			}
		}
	}
}

// The same cells at another place of another grid are told likewise, but for their numbers.
func TestATileOfAnotherGrid(t *testing.T) {
	s := &shake{state: 44}
	small, great := gridOf(t, api.Size{W: 8, H: 8}), gridOf(t, api.Size{W: 30, H: 30})
	scatter(t, small, s, 3, 1, 1, 2)
	scatter(t, great, s, 1, 1, 1, 1)
	there := func(cell int) int { return (16+cell/8)*30 + 8 + cell%8 }
	for cell := range 64 {
		kind, _ := small.Get(cell)
		set(t, great, there(cell), kind)
	}
	for class := range classes {
		want := label.Label(small, class, 0)
		for _, region := range want {
			for n, cell := range region {
				region[n] = there(cell)
			}
		}
		labels(t, great, class, 9, want...)
	}
}

// Where a pair leads over, its other way round leads back; each two cells beside one another in unlike tiles are two pairs.
func TestBordersLeadBack(t *testing.T) {
	s := &shake{state: 52}
	g := gridOf(t, api.Size{W: 41, H: 26})
	scatter(t, g, s, 4, 2, 2, 2)
	for class := range classes {
		seen := map[pair]int{}
		for i := range tile.Count(g.Size()) {
			for _, region := range label.Label(g, class, i) {
				for cell, other := range label.Borders(g, class, region) {
					seen[pair{cell, other}]++
				}
			}
		}
		for x, many := range seen {
			if many != 1 || seen[pair{x.other, x.cell}] != 1 || !place.Beside(g.Size(), x.cell, x.other) || !g.May(class, x.cell) {
				t.Errorf("class %d: %v is told %d times, and %d times the other way round", class, x, many, seen[pair{x.other, x.cell}])
			}
		}
		both := 0
		p := plainOf(g)
		for _, x := range p.pairs(class, span(0, 41*26-1)) {
			if p.may(class, x.cell) {
				both++
			}
		}
		if len(seen) != both || both == 0 {
			t.Errorf("class %d: %d pairs: want %d", class, len(seen), both)
		}
	}
}

// R3

// What is told hangs on the grid as it is when it is asked.
func TestAnswersAreOfTheGridAsItWas(t *testing.T) {
	g := halves(t)
	regions := label.Label(g, 0, 0)
	region := label.Of(g, 0, 9)
	walk := label.Borders(g, 0, region)
	if _, e := g.Fill(0, 0, 16, 8, 3); e != api.OK {
		t.Fatal(e)
	}
	own := plainOf(halves(t))
	if want := own.regions(0); !sameLists(regions, want[0]) || !slices.Equal(region, want[1][0]) {
		t.Errorf("%v, %v", regions, region)
	}
	if got := collect(walk); !slices.Equal(got, own.pairs(0, own.regions(0)[1][0])) {
		t.Errorf("%v", got)
	}
	labels(t, g, 0, 0)
	isOf(t, g, 0, 9)
	borders(t, g, 0, region)
}

// Cells that are built up on the way turn nothing of the walk.
func TestCellsThatChangeDuringAWalk(t *testing.T) {
	g := halves(t)
	list := span(0, 127)
	want := plainOf(g).pairs(0, list)
	var got []pair
	for cell, other := range label.Borders(g, 0, list) {
		got = append(got, pair{cell, other})
		set(t, g, other, 3)
		if other+16 < 128 {
			set(t, g, other+16, 3)
		}
	}
	if !slices.Equal(got, want) {
		t.Errorf("%v: want %v", got, want)
	}
	borders(t, g, 0, list)
}

func TestChangedBackIsAsBefore(t *testing.T) {
	s := &shake{state: 61}
	g := gridOf(t, api.Size{W: 18, H: 17})
	scatter(t, g, s, 2, 1, 1, 1)
	regions, pairs := everything(g)
	for cell := range place.Cells(g.Size()) {
		kind, _ := g.Get(cell)
		set(t, g, cell, (kind+1+s.below(3))%4)
		everything(g)
		set(t, g, cell, kind)
	}
	again, morePairs := everything(g)
	if !sameLists(regions, again) || !slices.Equal(pairs, morePairs) {
		t.Error("cells that changed, and changed back, have turned an answer")
	}
}

// Two grids know nothing of one another, and a twin answers as its grid does.
func TestGridsKnowNothingOfOneAnother(t *testing.T) {
	s := &shake{state: 70}
	z := api.Size{W: 18, H: 17}
	g, other := gridOf(t, z), gridOf(t, z)
	scatter(t, g, s, 2, 1, 1, 1)
	scatter(t, other, s, 1, 2, 2, 1)
	regions, pairs := everything(g)
	twin := g.Twin()
	everything(other)
	scatter(t, g, s, 0, 0, 0, 1)
	everything(g)
	again, morePairs := everything(twin)
	if !sameLists(regions, again) || !slices.Equal(pairs, morePairs) {
		t.Error("a twin answers other than its grid did")
	}
	holds(t, other)
}

func TestQuestionsDoNotChangeTheGrid(t *testing.T) {
	s := &shake{state: 83}
	g := gridOf(t, api.Size{W: 18, H: 17})
	scatter(t, g, s, 2, 1, 1, 1)
	before := plainOf(g)
	everything(g)
	label.Label(g, 9, -1)
	label.Of(g, -1, 1<<40)
	collect(label.Borders(g, 0, odd(306)))
	if !slices.Equal(plainOf(g).kinds, before.kinds) || g.Size() != before.z {
		t.Error("a question has changed the grid")
	}
}

// R4

// A list that was handed to Borders, and its spare room, are as before; and it turns nothing of the walk any more.
func TestTheListIsNotChangedAndNotKept(t *testing.T) {
	g := halves(t)
	room := append(span(0, 127), 500, 501, 502)
	list := room[:128]
	walk := label.Borders(g, 0, list)
	want := plainOf(g).pairs(0, span(0, 127))
	if got := collect(walk); !slices.Equal(got, want) {
		t.Errorf("%v: want %v", got, want)
	}
	if !slices.Equal(room, append(span(0, 127), 500, 501, 502)) {
		t.Errorf("the list has become %v", room)
	}
	walk = label.Borders(g, 0, list)
	clear(room)
	if got := collect(walk); !slices.Equal(got, want) {
		t.Errorf("with the list cleared: %v: want %v", got, want)
	}
	walk = label.Borders(g, 0, room)
	copy(room, span(0, 127))
	if got := collect(walk); got != nil {
		t.Errorf("with a list that has become another one: %v", got)
	}
}

// No answer shares memory with another one, nor two regions of one answer, their spare room neither.
func TestAnswersAreNewMemory(t *testing.T) {
	rows := []string{"..#..#..", "########", ".#.#.#.#"}
	g := drawing(t, rows...)
	want := [][]int{{0, 1}, {3, 4}, {6, 7}, {16}, {18}, {20}, {22}}
	regions := label.Label(g, 0, 0)
	for i, region := range regions {
		_ = append(region, 99, 98, 97)
		fill(region[:cap(region)], -5)
		if rest := label.Label(g, 0, 0); !sameLists(regions[i+1:], want[i+1:]) || !sameLists(rest, want) {
			t.Fatalf("with the region %d filled up: %v, and anew %v", i, regions, rest)
		}
	}
	region := label.Of(g, 0, 4)
	fill(region[:cap(region)], -5)
	isOf(t, g, 0, 4, 3, 4)
	isOf(t, g, 0, 3, 3, 4)
	labels(t, g, 0, 0, want...)
}

func fill(l []int, n int) {
	for i := range l {
		l[i] = n
	}
}

// The chapter's examples.
func TestExamples(t *testing.T) {
	g := drawing(t,
		".#........",
		".##.......")
	main := slices.Concat(span(2, 7), span(13, 17))
	labels(t, g, 0, 0, []int{0, 10}, main)
	labels(t, g, 0, 1, []int{8, 9, 18, 19})
	isOf(t, g, 0, 10, 0, 10)
	isOf(t, g, 0, 1)
	borders(t, g, 0, main, pair{7, 8}, pair{17, 18})
}
