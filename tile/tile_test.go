package tile_test

import (
	"iter"
	"math"
	"slices"
	"testing"

	"tidewalk/api"
	"tidewalk/place"
	"tidewalk/tile"
)

// P12.1

func TestCountOfBoxAsCellsAreCut(t *testing.T) {
	for _, z := range append(smallSizes(), greatSizes()...) {
		p := cut(z)
		count(t, z, len(p.boxes))
		for i, b := range p.boxes {
			isIn(t, z, i, b)
		}
		for cell, i := range p.of {
			isOf(t, z, cell, i)
		}
		if t.Failed() {
			return
		}
	}
}

func TestCountAboutMultiplesOfEight(t *testing.T) {
	for n, want := range map[int]int{1: 1, 2: 1, 7: 1, 8: 1, 9: 2, 15: 2, 16: 2, 17: 3, 63: 8, 64: 8, 65: 9, 4088: 511, 4089: 512, 4095: 512, 4096: 512} {
		count(t, api.Size{W: n, H: 1}, want)
		count(t, api.Size{W: 1, H: n}, want)
		count(t, api.Size{W: n, H: 8}, want)
		count(t, api.Size{W: 8, H: n}, want)
		count(t, api.Size{W: n, H: 9}, 2*want)
		count(t, api.Size{W: 9, H: n}, 2*want)
		count(t, api.Size{W: n, H: 1024}, 128*want)
		count(t, api.Size{W: 1024, H: n}, 128*want)
	}
	count(t, api.Size{W: 2048, H: 2048}, 65536)
	count(t, api.Size{W: 2047, H: 2049}, 256*257)
	count(t, api.Size{W: 4091, H: 1025}, 512*129)
}

func TestCountOfSizesThatMayNotBe(t *testing.T) {
	for _, z := range wrongSizes() {
		count(t, z, 0)
	}
}

// The tiles at the right, at the bottom and in the corner, of sizes one more and one less than whole tiles.
func TestBoxAtTheRightAndTheBottom(t *testing.T) {
	for _, x := range []struct {
		z    api.Size
		tile int
		want box
	}{
		{api.Size{W: 16, H: 24}, 1, box{8, 0, 8, 8}},
		{api.Size{W: 16, H: 24}, 4, box{0, 16, 8, 8}},
		{api.Size{W: 16, H: 24}, 5, box{8, 16, 8, 8}},
		{api.Size{W: 17, H: 25}, 0, box{0, 0, 8, 8}},
		{api.Size{W: 17, H: 25}, 2, box{16, 0, 1, 8}},
		{api.Size{W: 17, H: 25}, 8, box{16, 16, 1, 8}},
		{api.Size{W: 17, H: 25}, 9, box{0, 24, 8, 1}},
		{api.Size{W: 17, H: 25}, 11, box{16, 24, 1, 1}},
		{api.Size{W: 15, H: 23}, 0, box{0, 0, 8, 8}},
		{api.Size{W: 15, H: 23}, 1, box{8, 0, 7, 8}},
		{api.Size{W: 15, H: 23}, 4, box{0, 16, 8, 7}},
		{api.Size{W: 15, H: 23}, 5, box{8, 16, 7, 7}},
		{api.Size{W: 1, H: 1}, 0, box{0, 0, 1, 1}},
		{api.Size{W: 1, H: 12}, 1, box{0, 8, 1, 4}},
		{api.Size{W: 12, H: 1}, 1, box{8, 0, 4, 1}},
		{api.Size{W: 4096, H: 1024}, 511, box{4088, 0, 8, 8}},
		{api.Size{W: 4096, H: 1024}, 65535, box{4088, 1016, 8, 8}},
		{api.Size{W: 1024, H: 4096}, 65535, box{1016, 4088, 8, 8}},
		{api.Size{W: 2047, H: 2049}, 65791, box{2040, 2048, 7, 1}},
	} {
		isIn(t, x.z, x.tile, x.want)
	}
}

func TestOfAndBoxOfNone(t *testing.T) {
	for _, z := range append(smallSizes(), greatSizes()...) {
		for _, cell := range odd(z.W * z.H) {
			isOfNone(t, z, cell)
		}
		for _, i := range odd(tile.Count(z)) {
			isNone(t, z, i)
		}
	}
	// Cells that there are, and that are no tiles.
	z := api.Size{W: 20, H: 10}
	for i := 6; i < 200; i++ {
		isNone(t, z, i)
	}
}

func TestOfAndBoxOfSizesThatMayNotBe(t *testing.T) {
	for _, z := range wrongSizes() {
		for _, n := range append(odd(5), 0, 1, 2, 3, 4) {
			isOfNone(t, z, n)
			isNone(t, z, n, 0, 1, 8, n)
		}
	}
}

// P12.2

func TestCellsBesideAwayAsCellsAreCut(t *testing.T) {
	for _, z := range smallSizes() {
		p := cut(z)
		beside := p.beside()
		for i := range p.boxes {
			tells(t, z, "Cells", i, p.cells[i])
			tells(t, z, "Beside", i, rising(beside[i]))
			for cell := range p.of {
				isAway(t, z, cell, i, p.away(cell, i))
			}
		}
		if t.Failed() {
			return
		}
	}
}

func TestCellsAndBesideOfGreatSizes(t *testing.T) {
	for _, z := range greatSizes() {
		p := cut(z)
		beside := p.beside()
		for i := range p.boxes {
			tells(t, z, "Cells", i, p.cells[i])
			tells(t, z, "Beside", i, rising(beside[i]))
		}
		if t.Failed() {
			return
		}
	}
}

// Cells and tiles at the corners, in the middle and at odd steps between.
func TestAwayInGreatSizes(t *testing.T) {
	for _, z := range greatSizes() {
		p := cut(z)
		for _, cell := range some(len(p.of), z.W) {
			for _, i := range some(len(p.boxes), (z.W+7)/8) {
				isAway(t, z, cell, i, p.away(cell, i))
			}
		}
	}
	isAway(t, api.Size{W: 4096, H: 1024}, 0, 65535, 4088+1016)
	isAway(t, api.Size{W: 4096, H: 1024}, api.MaxCells-1, 0, 4088+1016)
	isAway(t, api.Size{W: 1, H: 4096}, 0, 511, 4088)
	isAway(t, api.Size{W: 4095, H: 1}, 4094, 0, 4087)
}

func some(many, width int) []int {
	l := []int{0, width - 1, many - width, many - 1, many / 2, many/2 + width/3}
	for n := width / 3; n < many; n += many/23 + 1 {
		l = append(l, n)
	}
	return l
}

// From all sides: the tile in the middle of nine is nearest by a column, by a row, by a corner, or the cell is in it.
func TestAwayOnAllSidesOfATile(t *testing.T) {
	z := api.Size{W: 24, H: 24}
	for _, x := range []struct{ x, y, want int }{
		{7, 8, 1}, {7, 15, 1}, {16, 8, 1}, {16, 15, 1}, {8, 7, 1}, {15, 7, 1}, {8, 16, 1}, {15, 16, 1},
		{7, 7, 2}, {16, 7, 2}, {7, 16, 2}, {16, 16, 2},
		{0, 0, 16}, {23, 0, 16}, {0, 23, 16}, {23, 23, 16},
		{0, 12, 8}, {23, 12, 8}, {12, 0, 8}, {12, 23, 8},
		{8, 8, 0}, {15, 8, 0}, {8, 15, 0}, {15, 15, 0}, {11, 12, 0},
		{5, 2, 9}, {20, 6, 7}, {3, 18, 8}, {19, 21, 10},
	} {
		isAway(t, z, x.y*24+x.x, 4, x.want)
	}
}

// To and from tiles of one column, of two rows, and of both.
func TestAwayFromTilesWithFewerColumnsAndRows(t *testing.T) {
	z := api.Size{W: 9, H: 10}
	isAway(t, z, 0, 3, 16)
	isAway(t, z, 89, 3, 0)
	isAway(t, z, 88, 3, 1)
	isAway(t, z, 89, 0, 3)
	isAway(t, z, 71, 2, 2)
	isAway(t, z, 71, 0, 1)
	isAway(t, z, 8, 3, 8)
	isAway(t, z, 80, 1, 1)
	isAway(t, z, 89, 2, 1)
}

func TestBesideByHand(t *testing.T) {
	three := api.Size{W: 17, H: 24}
	for i, want := range [][]int{{1, 3}, {0, 2, 4}, {1, 5}, {0, 4, 6}, {1, 3, 5, 7}, {2, 4, 8}, {3, 7}, {4, 6, 8}, {5, 7}} {
		tells(t, three, "Beside", i, want)
	}
	for _, z := range []api.Size{{W: 17, H: 1}, {W: 1, H: 17}, {W: 24, H: 8}, {W: 8, H: 24}} {
		for i, want := range [][]int{{1}, {0, 2}, {1}} {
			tells(t, z, "Beside", i, want)
		}
	}
	for _, z := range []api.Size{{W: 1, H: 1}, {W: 8, H: 8}, {W: 1, H: 8}, {W: 7, H: 3}} {
		tells(t, z, "Beside", 0, nil)
	}
	great := api.Size{W: 4096, H: 1024}
	for i, want := range map[int][]int{0: {1, 512}, 511: {510, 1023}, 512: {0, 513, 1024}, 513: {1, 512, 514, 1025}, 65024: {64512, 65025}, 65535: {65023, 65534}} {
		tells(t, great, "Beside", i, want)
	}
}

func TestCellsByHand(t *testing.T) {
	for _, x := range []struct {
		z    api.Size
		tile int
		want []int
	}{
		{api.Size{W: 1, H: 1}, 0, []int{0}},
		{api.Size{W: 3, H: 2}, 0, []int{0, 1, 2, 3, 4, 5}},
		{api.Size{W: 1, H: 10}, 0, []int{0, 1, 2, 3, 4, 5, 6, 7}},
		{api.Size{W: 1, H: 10}, 1, []int{8, 9}},
		{api.Size{W: 10, H: 1}, 1, []int{8, 9}},
		{api.Size{W: 9, H: 3}, 1, []int{8, 17, 26}},
		{api.Size{W: 10, H: 10}, 3, []int{88, 89, 98, 99}},
		{api.Size{W: 4096, H: 2}, 511, []int{4088, 4089, 4090, 4091, 4092, 4093, 4094, 4095, 8184, 8185, 8186, 8187, 8188, 8189, 8190, 8191}},
		{api.Size{W: 2047, H: 2049}, 65791, []int{4194296, 4194297, 4194298, 4194299, 4194300, 4194301, 4194302}},
	} {
		tells(t, x.z, "Cells", x.tile, x.want)
	}
}

func TestCellsAndBesideRise(t *testing.T) {
	for _, z := range append(smallSizes(), greatSizes()[:4]...) {
		for i := range tile.Count(z) {
			for _, name := range []string{"Cells", "Beside"} {
				last := -1
				for n := range walk(z, name, i) {
					if n <= last {
						t.Errorf("%s(%v, %d): %d comes behind %d", name, z, i, n, last)
					}
					last = n
				}
			}
		}
	}
}

func TestAwayOfNone(t *testing.T) {
	for _, z := range append(smallSizes(), greatSizes()...) {
		cells, tiles := z.W*z.H, tile.Count(z)
		for _, cell := range odd(cells) {
			for _, i := range []int{0, tiles - 1, -1, tiles, cell} {
				isAway(t, z, cell, i, -1)
			}
		}
		for _, i := range odd(tiles) {
			isNone(t, z, i, 0, cells-1, -1, cells, i)
		}
	}
}

// In this size a tile leads to four others, so a walk can be left at each of them.
var nine = api.Size{W: 23, H: 24}

func TestWalksLeftEarly(t *testing.T) {
	for i := range tile.Count(nine) {
		for _, name := range []string{"Cells", "Beside"} {
			whole := slices.Collect(walk(nine, name, i))
			for many := 1; many <= len(whole); many++ {
				var got []int
				for n := range walk(nine, name, i) {
					got = append(got, n)
					if len(got) == many {
						break
					}
				}
				if !slices.Equal(got, whole[:many]) {
					t.Errorf("%s(%d), left behind %d: %v", name, i, many, got)
				}
			}
		}
	}
}

// One walk is gone through again, behind a whole one and behind one that was left.
func TestWalksGoneThroughTwice(t *testing.T) {
	for i := -1; i <= tile.Count(nine); i++ {
		for _, name := range []string{"Cells", "Beside"} {
			s := walk(nine, name, i)
			whole := slices.Collect(s)
			for range s {
				break
			}
			if again := slices.Collect(s); !slices.Equal(again, whole) {
				t.Errorf("%s(%d) tells %v, then %v", name, i, whole, again)
			}
		}
	}
}

// Two goings through one walk are gone on with by turns, the one two ahead of the other.
func TestWalksGoneOnWithByTurns(t *testing.T) {
	for i := range tile.Count(nine) {
		for _, name := range []string{"Cells", "Beside"} {
			s := walk(nine, name, i)
			whole := slices.Collect(s)
			ahead, leave := iter.Pull(s)
			behind, leaveToo := iter.Pull(s)
			var got []int
			ahead()
			ahead()
			for n, ok := behind(); ok; n, ok = behind() {
				got = append(got, n)
				ahead()
			}
			leave()
			leaveToo()
			if !slices.Equal(got, whole) {
				t.Errorf("%s(%d) behind another one tells %v: want %v", name, i, got, whole)
			}
		}
	}
}

// Within a walk the same one, and those of the tiles that it tells.
func TestWalksWithinWalks(t *testing.T) {
	p := cut(nine)
	beside := p.beside()
	s := tile.Beside(nine, 4)
	var outer []int
	for a := range s {
		outer = append(outer, a)
		if inner := slices.Collect(s); !slices.Equal(inner, rising(beside[4])) {
			t.Errorf("within its own walk: %v", inner)
		}
		tells(t, nine, "Beside", a, rising(beside[a]))
		tells(t, nine, "Cells", a, p.cells[a])
	}
	if !slices.Equal(outer, rising(beside[4])) {
		t.Errorf("around others: %v", outer)
	}
	var cells []int
	c := tile.Cells(nine, 8)
	for cell := range c {
		cells = append(cells, cell)
		if inner := slices.Collect(c); !slices.Equal(inner, p.cells[8]) {
			t.Errorf("within its own walk: %v", inner)
		}
	}
	if !slices.Equal(cells, p.cells[8]) {
		t.Errorf("around others: %v", cells)
	}
}

// P12.3

func TestEachCellIsInJustOneTile(t *testing.T) {
	for _, z := range append(smallSizes(), greatSizes()...) {
		in := make([]int, place.Cells(z))
		for i := range tile.Count(z) {
			for cell := range tile.Cells(z, i) {
				in[cell]++
				isOf(t, z, cell, i)
			}
		}
		for cell, many := range in {
			if many != 1 {
				t.Fatalf("%v: the cell %d is in %d tiles", z, cell, many)
			}
		}
	}
}

// The cells of a tile are those in its box.
func TestCellsAreThoseInTheBox(t *testing.T) {
	for _, z := range smallSizes() {
		for i := range tile.Count(z) {
			bx, by, w, h, _ := tile.Box(z, i)
			if w < 1 || w > api.Tile || h < 1 || h > api.Tile {
				t.Errorf("%v: the tile %d has %d columns, %d rows", z, i, w, h)
			}
			l := slices.Collect(tile.Cells(z, i))
			if len(l) != w*h {
				t.Errorf("%v: the tile %d has %d cells in %d columns, %d rows", z, i, len(l), w, h)
			}
			for _, cell := range l {
				if x, y, ok := place.At(z, cell); !ok || x < bx || x >= bx+w || y < by || y >= by+h {
					t.Errorf("%v: the tile %d tells the cell %d", z, i, cell)
				}
			}
		}
	}
}

func TestACellIsNoughtAwayFromItsOwnTileAlone(t *testing.T) {
	for _, z := range smallSizes() {
		for cell := range place.Cells(z) {
			own, _ := tile.Of(z, cell)
			for i := range tile.Count(z) {
				if d := tile.Away(z, cell, i); d < 0 || (d == 0) != (i == own) {
					t.Errorf("%v: the cell %d of the tile %d is %d away from %d", z, cell, own, d, i)
				}
			}
		}
	}
}

// From a greatest grid's cells: its own tile and those beside that.
func TestACellIsNoughtAwayFromItsOwnTileInGreatSizes(t *testing.T) {
	for _, z := range greatSizes() {
		for cell := range place.Cells(z) {
			own, _ := tile.Of(z, cell)
			if d := tile.Away(z, cell, own); d != 0 {
				t.Fatalf("%v: the cell %d is %d away from its own tile %d", z, cell, d, own)
			}
			if cell%997 > 0 {
				continue
			}
			for i := range tile.Beside(z, own) {
				if d := tile.Away(z, cell, i); d < 1 || d > api.Tile {
					t.Fatalf("%v: the cell %d of the tile %d is %d away from %d beside it", z, cell, own, d, i)
				}
			}
		}
	}
}

// Tiles are beside one another both ways, none is beside itself, and cells of the two are beside one another.
func TestBesideBothWays(t *testing.T) {
	for _, z := range smallSizes() {
		for a := range tile.Count(z) {
			for b := range tile.Count(z) {
				there := slices.Contains(slices.Collect(tile.Beside(z, a)), b)
				back := slices.Contains(slices.Collect(tile.Beside(z, b)), a)
				if there != back || there != (a != b && touch(z, a, b)) {
					t.Errorf("%v: %d has %d beside it: %v; the other way: %v", z, a, b, there, back)
				}
			}
		}
	}
}

func touch(z api.Size, a, b int) bool {
	for cell := range tile.Cells(z, a) {
		if tile.Away(z, cell, b) == 1 {
			return true
		}
	}
	return false
}

// R3: what is told hangs on the arguments alone, whatever was asked, and however far other walks are.

func TestAnswersHangOnTheArgumentsAlone(t *testing.T) {
	a, b := api.Size{W: 20, H: 10}, api.Size{W: 10, H: 20}
	pa, pb := cut(a), cut(b)
	for i := range tile.Cells(a, 5) {
		tells(t, b, "Cells", 5, pb.cells[5])
		tells(t, b, "Beside", 3, rising(pb.beside()[3]))
		isIn(t, b, 5, pb.boxes[5])
		isIn(t, a, 5, pa.boxes[5])
		isOf(t, b, i, pb.of[i])
		isOf(t, a, i, 5)
		isNone(t, a, 6, i)
		isAway(t, api.Size{W: 8, H: 1 << 32}, i, 0, -1)
	}
}

// A size that a walk was made of is the caller's own again.
func TestWalksKeepTheSizeTheyWereMadeOf(t *testing.T) {
	z := api.Size{W: 20, H: 10}
	cells, beside := tile.Cells(z, 5), tile.Beside(z, 1)
	z.W, z.H = math.MinInt, 3
	if l := slices.Collect(cells); !slices.Equal(l, []int{176, 177, 178, 179, 196, 197, 198, 199}) {
		t.Errorf("Cells(5) = %v", l)
	}
	if l := slices.Collect(beside); !slices.Equal(l, []int{0, 2, 4}) {
		t.Errorf("Beside(1) = %v", l)
	}
	count(t, z, 0)
}

// The chapter's examples, and the document's second one.

func TestExamples(t *testing.T) {
	z := api.Size{W: 20, H: 10}
	count(t, z, 6)
	isOf(t, z, 7, 0)
	isOf(t, z, 8, 1)
	isOf(t, z, 160, 3)
	isIn(t, z, 2, box{16, 0, 4, 8})
	isIn(t, z, 5, box{16, 8, 4, 2})
	tells(t, z, "Beside", 1, []int{0, 2, 4})
	isAway(t, z, 0, 1, 8)
	isAway(t, z, 0, 4, 16)
	tells(t, z, "Cells", 5, []int{176, 177, 178, 179, 196, 197, 198, 199})
}
