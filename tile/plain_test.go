package tile_test

import (
	"iter"
	"math"
	"slices"
	"testing"

	"tidewalk/api"
	"tidewalk/tile"
)

// box is where a tile is: its first column and row, how many of each it has.
type box struct{ x, y, w, h int }

// plain is the tiles of a size, cut cell by cell.
type plain struct {
	z     api.Size
	boxes []box
	of    []int
	cells [][]int
}

// cut begins a tile wherever columns and rows come to the next 8, and gives it all cells that are left of these.
func cut(z api.Size) *plain {
	p := &plain{z: z, of: make([]int, z.W*z.H)}
	for y := 0; y < z.H; y += 8 {
		for x := 0; x < z.W; x += 8 {
			b := box{x: x, y: y}
			for b.w < 8 && x+b.w < z.W {
				b.w++
			}
			for b.h < 8 && y+b.h < z.H {
				b.h++
			}
			p.take(b)
		}
	}
	return p
}

func (p *plain) take(b box) {
	var l []int
	for y := b.y; y < b.y+b.h; y++ {
		for x := b.x; x < b.x+b.w; x++ {
			p.of[y*p.z.W+x] = len(p.boxes)
			l = append(l, y*p.z.W+x)
		}
	}
	p.boxes = append(p.boxes, b)
	p.cells = append(p.cells, l)
}

// beside goes over all cells, and those right of and below each.
func (p *plain) beside() []map[int]bool {
	l := make([]map[int]bool, len(p.boxes))
	for i := range l {
		l[i] = map[int]bool{}
	}
	meet := func(a, b int) {
		if p.of[a] != p.of[b] {
			l[p.of[a]][p.of[b]] = true
			l[p.of[b]][p.of[a]] = true
		}
	}
	for cell := range p.of {
		if cell%p.z.W+1 < p.z.W {
			meet(cell, cell+1)
		}
		if cell+p.z.W < len(p.of) {
			meet(cell, cell+p.z.W)
		}
	}
	return l
}

// away goes over all cells of the tile.
func (p *plain) away(cell, i int) int {
	least := math.MaxInt
	for _, other := range p.cells[i] {
		columns := apart(cell%p.z.W, other%p.z.W)
		rows := apart(cell/p.z.W, other/p.z.W)
		least = min(least, columns+rows)
	}
	return least
}

func apart(m, n int) int {
	if m < n {
		return n - m
	}
	return m - n
}

func rising(in map[int]bool) []int {
	var l []int
	for n := range in {
		l = append(l, n)
	}
	slices.Sort(l)
	return l
}

// Sides about the first few multiples of 8.
func smallSizes() []api.Size {
	sides := []int{1, 2, 5, 7, 8, 9, 10, 15, 16, 17, 20, 23, 24, 25}
	var l []api.Size
	for _, w := range sides {
		for _, h := range sides {
			l = append(l, api.Size{W: w, H: h})
		}
	}
	return l
}

// Sizes at the limits, whose last tiles have all, one or all but one of eight columns and rows.
func greatSizes() []api.Size {
	return []api.Size{
		{W: api.MaxSide, H: 1},
		{W: 1, H: api.MaxSide},
		{W: api.MaxSide - 1, H: 9},
		{W: 7, H: api.MaxSide - 7},
		{W: api.MaxSide, H: api.MaxCells / api.MaxSide},
		{W: api.MaxCells / api.MaxSide, H: api.MaxSide},
		{W: 2048, H: 2048},
		{W: 2047, H: 2049},
		{W: 2049, H: 2047},
		{W: api.MaxSide - 5, H: 1025},
	}
}

func wrongSizes() []api.Size {
	l := []api.Size{
		{W: api.MaxSide, H: api.MaxCells/api.MaxSide + 1},
		{W: api.MaxCells/api.MaxSide + 1, H: api.MaxSide},
		{W: 2049, H: 2048},
		{W: 2048, H: 2049},
		{W: api.MaxSide, H: api.MaxSide},
		{W: -2, H: -2},
		{W: -8, H: -8},
		{W: -16, H: 16},
		{W: math.MaxInt, H: math.MaxInt},
		{W: math.MinInt, H: math.MinInt},
		// Their products wrap round, or they do when they are brought up to whole tiles.
		{W: 1 << 32, H: 1 << 32},
		{W: 1 << 62, H: 4},
		{W: 1<<32 + 8, H: 8},
		{W: 8, H: 1<<32 + 8},
		{W: math.MaxInt - 6, H: 8},
	}
	for _, n := range []int{0, -1, -7, -8, -9, math.MinInt, api.MaxSide + 1, api.MaxSide + 8, 8 * api.MaxSide, api.MaxCells, 1 << 32, math.MaxInt} {
		l = append(l, api.Size{W: n, H: 1}, api.Size{W: 1, H: n}, api.Size{W: n, H: 9}, api.Size{W: 9, H: n})
	}
	return l
}

// odd are numbers of none, where there are so many from 0 on; some fall on one when they are cut short to 32 bits.
func odd(many int) []int {
	return []int{-1, -2, -8, -many, -many - 1, many, many + 1, many + 8, 2 * many, 1 << 31, 1 << 32, 1<<32 + many - 1, -1 << 32, many - 1 - 1<<32,
		1 << 35, 1 << 62, math.MaxInt, math.MaxInt - 1, math.MaxInt - 7, math.MinInt, math.MinInt + 1}
}

func count(t *testing.T, z api.Size, want int) {
	t.Helper()
	if got := tile.Count(z); got != want {
		t.Errorf("Count(%v) = %d: want %d", z, got, want)
	}
}

// isOf calls Helper at a fault alone: it is asked for all cells of the greatest sizes, and Helper takes longer than the answer.
func isOf(t *testing.T, z api.Size, cell, want int) {
	if got, ok := tile.Of(z, cell); got != want || !ok {
		t.Helper()
		t.Errorf("Of(%v, %d) = %d, %v: want %d", z, cell, got, ok, want)
	}
}

func isOfNone(t *testing.T, z api.Size, cell int) {
	t.Helper()
	if got, ok := tile.Of(z, cell); got != 0 || ok {
		t.Errorf("Of(%v, %d) = %d, %v: want 0, false", z, cell, got, ok)
	}
}

func isIn(t *testing.T, z api.Size, i int, want box) {
	t.Helper()
	if x, y, w, h, ok := tile.Box(z, i); (box{x, y, w, h}) != want || !ok {
		t.Errorf("Box(%v, %d) = %d, %d, %d, %d, %v: want %v", z, i, x, y, w, h, ok, want)
	}
}

// isNone holds all that takes a tile against none of it; Away is asked from each of some cells.
func isNone(t *testing.T, z api.Size, i int, from ...int) {
	t.Helper()
	if x, y, w, h, ok := tile.Box(z, i); (box{x, y, w, h}) != (box{}) || ok {
		t.Errorf("Box(%v, %d) = %d, %d, %d, %d, %v: want noughts, false", z, i, x, y, w, h, ok)
	}
	tells(t, z, "Cells", i, nil)
	tells(t, z, "Beside", i, nil)
	for _, cell := range from {
		isAway(t, z, cell, i, -1)
	}
}

// walk is one of the two functions that tell, by its name.
func walk(z api.Size, name string, i int) iter.Seq[int] {
	if name == "Cells" {
		return tile.Cells(z, i)
	}
	return tile.Beside(z, i)
}

func tells(t *testing.T, z api.Size, name string, i int, want []int) {
	t.Helper()
	if got := slices.Collect(walk(z, name, i)); !slices.Equal(got, want) {
		t.Errorf("%s(%v, %d) = %v: want %v", name, z, i, got, want)
	}
}

func isAway(t *testing.T, z api.Size, cell, i, want int) {
	if got := tile.Away(z, cell, i); got != want {
		t.Helper()
		t.Errorf("Away(%v, %d, %d) = %d: want %d", z, cell, i, got, want)
	}
}
