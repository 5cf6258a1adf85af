package place_test

import (
	"math"
	"slices"
	"testing"

	"tidewalk/api"
	"tidewalk/place"
)

// A cell's column and row, told apart from the package under test.
type spot struct{ x, y int }

func spots(z api.Size) []spot {
	var l []spot
	for y := range z.H {
		for x := range z.W {
			l = append(l, spot{x, y})
		}
	}
	return l
}

func apart(m, n int) int {
	if m < n {
		return n - m
	}
	return m - n
}

func far(p, q spot) int { return apart(p.x, q.x) + apart(p.y, q.y) }

func touching(p, q spot) bool {
	return p.x == q.x && apart(p.y, q.y) == 1 || p.y == q.y && apart(p.x, q.x) == 1
}

func smallSizes() []api.Size {
	var l []api.Size
	for w := 1; w <= 6; w++ {
		for h := 1; h <= 6; h++ {
			l = append(l, api.Size{W: w, H: h})
		}
	}
	return l
}

// Sizes at the limits. They are too great to be gone through pair by pair.
func greatSizes() []api.Size {
	return []api.Size{
		{W: api.MaxSide, H: 1},
		{W: 1, H: api.MaxSide},
		{W: api.MaxSide, H: api.MaxCells / api.MaxSide},
		{W: api.MaxCells / api.MaxSide, H: api.MaxSide},
		{W: 2048, H: 2048},
		{W: 2047, H: 2049},
	}
}

func wrongSizes() []api.Size {
	l := []api.Size{
		{W: api.MaxSide, H: api.MaxCells/api.MaxSide + 1},
		{W: api.MaxCells/api.MaxSide + 1, H: api.MaxSide},
		{W: 2049, H: 2048},
		{W: 2048, H: 2049},
		{W: api.MaxSide, H: api.MaxSide},
		{W: -2, H: -2},
		{W: math.MaxInt, H: math.MaxInt},
		{W: math.MinInt, H: math.MinInt},
		// Their products wrap round to 0, or to a small number.
		{W: 1 << 32, H: 1 << 32},
		{W: 1 << 62, H: 4},
		{W: 1<<32 + 1, H: 1 << 32},
		{W: math.MaxInt, H: 3},
	}
	for _, n := range []int{0, -1, math.MinInt, api.MaxSide + 1, api.MaxCells, 1 << 32, math.MaxInt} {
		l = append(l, api.Size{W: n, H: 1}, api.Size{W: 1, H: n}, api.Size{W: n, H: 3}, api.Size{W: 3, H: n})
	}
	return l
}

// Numbers that are no cell of a size with so many cells.
func wrongCells(many int) []int {
	return []int{-1, -2, -many, many, many + 1, 2 * many, 1 << 32, -1 << 32, math.MaxInt, math.MaxInt - 1, math.MinInt, math.MinInt + 1}
}

func near(z api.Size, cell int) []int { return slices.Collect(place.Near(z, cell)) }

// P1.1

func TestRightAndCellsOfSizesThatMayBe(t *testing.T) {
	for _, z := range append(smallSizes(), greatSizes()...) {
		if !place.Right(z) {
			t.Errorf("Right(%v) is false", z)
		}
		if n := place.Cells(z); n != z.W*z.H {
			t.Errorf("Cells(%v) is %d", z, n)
		}
	}
}

func TestRightAndCellsOfSizesThatMayNotBe(t *testing.T) {
	for _, z := range wrongSizes() {
		if place.Right(z) {
			t.Errorf("Right(%v) is true", z)
		}
		if n := place.Cells(z); n != 0 {
			t.Errorf("Cells(%v) is %d", z, n)
		}
	}
}

func TestRightOfEverySideNearTheBoundOfCells(t *testing.T) {
	for w := 1; w <= api.MaxSide; w++ {
		most := min(api.MaxSide, api.MaxCells/w)
		if !place.Right(api.Size{W: w, H: most}) || place.Right(api.Size{W: w, H: most + 1}) {
			t.Errorf("width %d: %d rows are not the most", w, most)
		}
		if !place.Right(api.Size{W: most, H: w}) || place.Right(api.Size{W: most + 1, H: w}) {
			t.Errorf("height %d: %d columns are not the most", w, most)
		}
	}
}

func TestIndexAndAtCountRowByRow(t *testing.T) {
	for _, z := range smallSizes() {
		for cell, p := range spots(z) {
			if c, ok := place.Index(z, p.x, p.y); !ok || c != cell {
				t.Errorf("Index(%v, %d, %d) is %d, %v", z, p.x, p.y, c, ok)
			}
			if x, y, ok := place.At(z, cell); !ok || x != p.x || y != p.y {
				t.Errorf("At(%v, %d) is %d, %d, %v", z, cell, x, y, ok)
			}
		}
	}
}

func TestIndexAndAtOfFirstAndLastCell(t *testing.T) {
	for _, z := range append(smallSizes(), greatSizes()...) {
		last := z.W*z.H - 1
		if c, ok := place.Index(z, 0, 0); !ok || c != 0 {
			t.Errorf("%v: the first cell is %d, %v", z, c, ok)
		}
		if c, ok := place.Index(z, z.W-1, z.H-1); !ok || c != last {
			t.Errorf("%v: the last cell is %d, %v", z, c, ok)
		}
		if x, y, ok := place.At(z, 0); !ok || x != 0 || y != 0 {
			t.Errorf("%v: the first cell is at %d, %d, %v", z, x, y, ok)
		}
		if x, y, ok := place.At(z, last); !ok || x != z.W-1 || y != z.H-1 {
			t.Errorf("%v: the last cell is at %d, %d, %v", z, x, y, ok)
		}
	}
}

func TestIndexWhereThereIsNoCell(t *testing.T) {
	for _, z := range append(smallSizes(), greatSizes()...) {
		for _, x := range wrongCells(z.W) {
			for _, y := range []int{0, z.H - 1, -1, z.H} {
				if c, ok := place.Index(z, x, y); ok || c != 0 {
					t.Errorf("Index(%v, %d, %d) is %d, %v", z, x, y, c, ok)
				}
			}
		}
		for _, y := range wrongCells(z.H) {
			for _, x := range []int{0, z.W - 1, -1, z.W} {
				if c, ok := place.Index(z, x, y); ok || c != 0 {
					t.Errorf("Index(%v, %d, %d) is %d, %v", z, x, y, c, ok)
				}
			}
		}
	}
}

func TestAtWhereThereIsNoCell(t *testing.T) {
	for _, z := range append(smallSizes(), greatSizes()...) {
		for _, cell := range wrongCells(z.W * z.H) {
			if x, y, ok := place.At(z, cell); ok || x != 0 || y != 0 {
				t.Errorf("At(%v, %d) is %d, %d, %v", z, cell, x, y, ok)
			}
		}
	}
}

func TestIndexAndAtOfSizesThatMayNotBe(t *testing.T) {
	for _, z := range wrongSizes() {
		for _, n := range []int{0, 1, 2, -1, math.MaxInt, math.MinInt} {
			if c, ok := place.Index(z, n, 0); ok || c != 0 {
				t.Errorf("Index(%v, %d, 0) is %d, %v", z, n, c, ok)
			}
			if c, ok := place.Index(z, 0, n); ok || c != 0 {
				t.Errorf("Index(%v, 0, %d) is %d, %v", z, n, c, ok)
			}
			if x, y, ok := place.At(z, n); ok || x != 0 || y != 0 {
				t.Errorf("At(%v, %d) is %d, %d, %v", z, n, x, y, ok)
			}
		}
	}
}

// P1.2

func TestNearBesideAwayOfAllPairs(t *testing.T) {
	for _, z := range smallSizes() {
		all := spots(z)
		for a, p := range all {
			var want []int
			for b, q := range all {
				if touching(p, q) {
					want = append(want, b)
				}
				if got := place.Beside(z, a, b); got != touching(p, q) {
					t.Errorf("Beside(%v, %d, %d) is %v", z, a, b, got)
				}
				if got := place.Away(z, a, b); got != far(p, q) {
					t.Errorf("Away(%v, %d, %d) is %d", z, a, b, got)
				}
			}
			if got := near(z, a); !slices.Equal(got, want) {
				t.Errorf("Near(%v, %d) is %v, not %v", z, a, got, want)
			}
		}
	}
}

func TestNearInOneRowAndOneColumn(t *testing.T) {
	row, column := api.Size{W: api.MaxSide, H: 1}, api.Size{W: 1, H: api.MaxSide}
	last := api.MaxSide - 1
	for cell, want := range map[int][]int{0: {1}, 1: {0, 2}, last - 1: {last - 2, last}, last: {last - 1}} {
		for _, z := range []api.Size{row, column} {
			if got := near(z, cell); !slices.Equal(got, want) {
				t.Errorf("Near(%v, %d) is %v, not %v", z, cell, got, want)
			}
		}
	}
	if got := near(api.Size{W: 1, H: 1}, 0); len(got) != 0 {
		t.Errorf("a cell alone has %v beside it", got)
	}
}

func TestNearBesideAwayInGreatestGrids(t *testing.T) {
	for _, z := range greatSizes()[2:] {
		w, last := z.W, z.W*z.H-1
		for cell, want := range map[int][]int{
			0:        {1, w},
			w - 1:    {w - 2, 2*w - 1},
			w:        {0, w + 1, 2 * w},
			w + 1:    {1, w, w + 2, 2*w + 1},
			last - w: {last - 2*w, last - w - 1, last},
			last:     {last - w, last - 1},
		} {
			if got := near(z, cell); !slices.Equal(got, want) {
				t.Errorf("Near(%v, %d) is %v, not %v", z, cell, got, want)
			}
		}
		if got := place.Away(z, 0, last); got != z.W+z.H-2 {
			t.Errorf("Away(%v) from corner to corner is %d", z, got)
		}
		if place.Beside(z, w-1, w) || !place.Beside(z, w, 2*w) || !place.Beside(z, last, last-1) {
			t.Errorf("Beside(%v) is wrong at an edge", z)
		}
	}
}

func TestNearBesideAwayWithoutSuchACell(t *testing.T) {
	for _, z := range append(smallSizes(), greatSizes()...) {
		last := z.W*z.H - 1
		for _, no := range wrongCells(z.W * z.H) {
			noSuchCell(t, z, no, []int{0, last, no, -1, last + 1})
		}
	}
}

func TestNearBesideAwayOfSizesThatMayNotBe(t *testing.T) {
	for _, z := range wrongSizes() {
		for _, no := range []int{0, 1, 2, 3, -1, math.MaxInt, math.MinInt} {
			noSuchCell(t, z, no, []int{0, 1, 2, 3})
		}
	}
}

func noSuchCell(t *testing.T, z api.Size, no int, others []int) {
	t.Helper()
	if got := near(z, no); len(got) != 0 {
		t.Errorf("Near(%v, %d) is %v", z, no, got)
	}
	for _, other := range others {
		if place.Beside(z, no, other) || place.Beside(z, other, no) {
			t.Errorf("Beside(%v) of %d and %d is true", z, no, other)
		}
		if a, b := place.Away(z, no, other), place.Away(z, other, no); a != -1 || b != -1 {
			t.Errorf("Away(%v) of %d and %d is %d, %d", z, no, other, a, b)
		}
	}
}

func TestNearCanBeLeftAnywhereAndBegunAnew(t *testing.T) {
	z := api.Size{W: 3, H: 3}
	for cell := range place.Cells(z) {
		seq := place.Near(z, cell)
		whole := slices.Collect(seq)
		for many := 1; many <= len(whole); many++ {
			var got []int
			for c := range seq {
				got = append(got, c)
				if len(got) == many {
					break
				}
			}
			if !slices.Equal(got, whole[:many]) {
				t.Errorf("the first %d beside %d are %v, not %v", many, cell, got, whole[:many])
			}
		}
		if again := slices.Collect(seq); !slices.Equal(again, whole) {
			t.Errorf("a second pass beside %d tells %v, not %v", cell, again, whole)
		}
	}
}

// P1.3

func TestIndexOfAtAndAtOfIndex(t *testing.T) {
	for _, z := range append(smallSizes(), greatSizes()...) {
		for cell := range z.W * z.H {
			x, y, ok := place.At(z, cell)
			back, there := place.Index(z, x, y)
			if !ok || !there || back != cell {
				t.Fatalf("Index of At(%v, %d) is %d, %v", z, cell, back, there)
			}
		}
		for _, p := range spots(z) {
			cell, ok := place.Index(z, p.x, p.y)
			x, y, there := place.At(z, cell)
			if !ok || !there || x != p.x || y != p.y {
				t.Fatalf("At of Index(%v, %d, %d) is %d, %d, %v", z, p.x, p.y, x, y, there)
			}
		}
	}
}

func TestThoseBesideAreJustThoseOneAway(t *testing.T) {
	for _, z := range smallSizes() {
		many := place.Cells(z)
		for a := range many {
			l := near(z, a)
			if z.W > 1 && z.H > 1 && (len(l) < 2 || len(l) > 4) {
				t.Errorf("%v: %d has %v beside it", z, a, l)
			}
			for b := range many {
				one := place.Away(z, a, b) == 1
				if slices.Contains(l, b) != one || place.Beside(z, a, b) != one {
					t.Errorf("%v: %d and %d are %d away, Near tells %v", z, a, b, place.Away(z, a, b), l)
				}
			}
		}
	}
}

func TestNoWayOverAThirdCellIsShorter(t *testing.T) {
	for _, z := range []api.Size{{W: 1, H: 1}, {W: 7, H: 1}, {W: 1, H: 7}, {W: 2, H: 2}, {W: 5, H: 4}, {W: 4, H: 5}} {
		many := place.Cells(z)
		for a := range many {
			for b := range many {
				straight := place.Away(z, a, b)
				if straight != place.Away(z, b, a) || (straight == 0) != (a == b) {
					t.Errorf("Away(%v) of %d and %d is %d", z, a, b, straight)
				}
				for c := range many {
					if over := place.Away(z, a, c) + place.Away(z, c, b); over < straight {
						t.Errorf("%v: from %d to %d over %d it is %d, straight %d", z, a, b, c, over, straight)
					}
				}
			}
		}
	}
}

// The chapter's examples.

func TestExamples(t *testing.T) {
	z := api.Size{W: 4, H: 3}
	if c, ok := place.Index(z, 1, 2); c != 9 || !ok {
		t.Error("Index(1, 2)", c, ok)
	}
	if x, y, ok := place.At(z, 9); x != 1 || y != 2 || !ok {
		t.Error("At(9)", x, y, ok)
	}
	if c, ok := place.Index(z, 4, 0); c != 0 || ok {
		t.Error("Index(4, 0)", c, ok)
	}
	if x, y, ok := place.At(z, 12); x != 0 || y != 0 || ok {
		t.Error("At(12)", x, y, ok)
	}
	for cell, want := range map[int][]int{5: {1, 4, 6, 9}, 0: {1, 4}, 11: {7, 10}} {
		if got := near(z, cell); !slices.Equal(got, want) {
			t.Errorf("Near(%d) is %v", cell, got)
		}
	}
	if place.Beside(z, 3, 4) || !place.Beside(z, 0, 4) {
		t.Error("Beside")
	}
	if place.Away(z, 0, 11) != 5 || place.Away(z, 0, 12) != -1 {
		t.Error("Away")
	}
}
