package cells_test

import (
	"math"
	"slices"
	"testing"

	"tidewalk/api"
	"tidewalk/cells"
	"tidewalk/terrain"
)

// Kinds for three classes: each class may stand on some, none of them on the last kind.
func kinds() []api.Kind {
	return []api.Kind{{Cost: 1, Mask: 1}, {Cost: 4, Mask: 6}, {Cost: api.MaxCost, Mask: 7}, {Cost: 9}}
}

const classes = 3

func tableOf(t *testing.T, l []api.Kind, classes int) *terrain.Table {
	t.Helper()
	x, e := terrain.New(l, classes)
	if e != api.OK {
		t.Fatalf("no table of %v, %d: %d", l, classes, e)
	}
	return x
}

func table(t *testing.T) *terrain.Table {
	t.Helper()
	return tableOf(t, kinds(), classes)
}

func gridOf(t *testing.T, w, h int, x *terrain.Table) *cells.Grid {
	t.Helper()
	g, e := cells.New(api.Size{W: w, H: h}, x)
	if e != api.OK || g == nil {
		t.Fatalf("New(%d, %d) = %v, %d: want a grid", w, h, g, e)
	}
	return g
}

func grid(t *testing.T, w, h int) *cells.Grid {
	t.Helper()
	return gridOf(t, w, h, table(t))
}

// A grid of 7 by 5 whose cells are of all kinds.
func mixed(t *testing.T) *cells.Grid {
	t.Helper()
	g := grid(t, 7, 5)
	for cell := range 35 {
		done(t, g, cell, cell*cell%len(kinds()))
	}
	return g
}

func done(t *testing.T, g *cells.Grid, cell, kind int) {
	t.Helper()
	if _, e := g.Set(cell, kind); e != api.OK {
		t.Fatalf("Set(%d, %d): %d", cell, kind, e)
	}
}

// kindsOf are the kinds of all cells of a grid, asked one by one.
func kindsOf(t *testing.T, g *cells.Grid) []int {
	t.Helper()
	l := make([]int, g.Size().W*g.Size().H)
	for cell := range l {
		kind, ok := g.Get(cell)
		if !ok {
			t.Fatalf("Get(%d) of %v: no such cell", cell, g.Size())
		}
		l[cell] = kind
	}
	return l
}

func hasKinds(t *testing.T, what string, g *cells.Grid, want []int) {
	t.Helper()
	if got := kindsOf(t, g); !slices.Equal(got, want) {
		t.Errorf("%s: the grid is\n%v, want\n%v", what, got, want)
	}
}

func answers(t *testing.T, what string, l []int, e api.Errno, want ...int) {
	t.Helper()
	if e != api.OK || !slices.Equal(l, want) {
		t.Errorf("%s = %v, %d, want %v", what, l, e, want)
	}
}

// refused holds an answer against an error, beside which there are no cells.
func refused(t *testing.T, what any, l []int, e, want api.Errno) {
	t.Helper()
	if e != want || len(l) != 0 {
		t.Errorf("%v = %v, %d, want error %d", what, l, e, want)
	}
}

// differing are the numbers at which two lists are not the same, rising.
func differing(a, b []int) []int {
	var l []int
	for i := range a {
		if a[i] != b[i] {
			l = append(l, i)
		}
	}
	return l
}

// Numbers of no cell of a grid with so many, of which some wrap round or fall on a cell when they are cut short.
func noCells(many int) []int {
	return []int{-1, -2, -many, many, many + 1, 2 * many, -1 << 8, -1 << 16, -1 << 32, 1 << 32, 1<<32 + 1, 1 << 62, math.MinInt, math.MinInt + 1, math.MaxInt, math.MaxInt - 1}
}

// Numbers of no kind of a table with so many.
func noKinds(many int) []int {
	return []int{-1, -2, -many, many, many + 1, 16, 255, 256, 257, -256, -255, 1 << 32, 1<<32 + 1, -1 << 32, math.MinInt, math.MaxInt}
}

// A list of numbers that look drawn, the same in every run.
type numbers struct{ state uint64 }

func (n *numbers) below(end int) int {
	n.state = n.state*6364136223846793005 + 1442695040888963407
	return int(n.state>>33) % end
}

// P3.1

func TestNewIsOfKindNoughtEverywhere(t *testing.T) {
	x := table(t)
	for _, z := range []api.Size{{W: 1, H: 1}, {W: 1, H: 9}, {W: 9, H: 1}, {W: 4, H: 3}, {W: api.MaxSide, H: 1}, {W: 1, H: api.MaxSide}, {W: 2048, H: 2048}, {W: api.MaxSide, H: 1024}, {W: 1024, H: api.MaxSide}} {
		g := gridOf(t, z.W, z.H, x)
		if g.Size() != z || g.Table() != x {
			t.Errorf("%v: Size %v, Table %p, want %p", z, g.Size(), g.Table(), x)
		}
		if len(differing(kindsOf(t, g), make([]int, z.W*z.H))) != 0 {
			t.Errorf("%v: not all cells are of kind 0", z)
		}
		for _, cell := range noCells(z.W * z.H) {
			if kind, ok := g.Get(cell); kind != 0 || ok {
				t.Errorf("%v: Get(%d) = %d, %v", z, cell, kind, ok)
			}
		}
	}
}

func TestNewOfSizesThatMayNotBe(t *testing.T) {
	x := table(t)
	for _, z := range []api.Size{{}, {W: 1}, {H: 1}, {W: -1, H: 1}, {W: 1, H: -1}, {W: -2, H: -2}, {W: api.MaxSide + 1, H: 1}, {W: 1, H: api.MaxSide + 1}, {W: api.MaxSide, H: 1025}, {W: 1025, H: api.MaxSide}, {W: 2049, H: 2048}, {W: 1 << 32, H: 1 << 32}, {W: math.MaxInt, H: math.MaxInt}, {W: math.MinInt, H: math.MinInt}, {W: math.MinInt, H: 2}} {
		if g, e := cells.New(z, x); g != nil || e != api.ErrArg {
			t.Errorf("New(%v) = %v, %d, want nil, ErrArg", z, g, e)
		}
	}
}

func TestNewWithoutKinds(t *testing.T) {
	for _, x := range []*terrain.Table{nil, {}, new(terrain.Table)} {
		for _, z := range []api.Size{{W: 4, H: 3}, {W: 1, H: 1}, {}, {W: -1, H: 5}} {
			if g, e := cells.New(z, x); g != nil || e != api.ErrArg {
				t.Errorf("New(%v) without kinds = %v, %d, want nil, ErrArg", z, g, e)
			}
		}
	}
}

func TestGetMayCostOfEveryCell(t *testing.T) {
	for _, g := range []*cells.Grid{mixed(t), grid(t, 1, 1)} {
		many := g.Size().W * g.Size().H
		for cell := range many {
			for kind, k := range kinds() {
				done(t, g, cell, kind)
				if got, ok := g.Get(cell); got != kind || !ok {
					t.Errorf("Get(%d) = %d, %v, want %d", cell, got, ok, kind)
				}
				if got := g.Cost(cell); got != k.Cost {
					t.Errorf("Cost(%d) of kind %d = %d, want %d", cell, kind, got, k.Cost)
				}
				for class := range classes {
					if got, want := g.May(class, cell), k.Mask&(1<<class) != 0; got != want {
						t.Errorf("May(%d, %d) on kind %d = %v", class, cell, kind, got)
					}
				}
			}
		}
	}
}

func TestGetMayCostWithoutSuchACellOrClass(t *testing.T) {
	g := grid(t, 7, 5)
	if _, e := g.Fill(0, 0, 7, 5, 2); e != api.OK {
		t.Fatal(e)
	}
	for _, cell := range noCells(35) {
		if kind, ok := g.Get(cell); kind != 0 || ok {
			t.Errorf("Get(%d) = %d, %v, want 0, false", cell, kind, ok)
		}
		if cost := g.Cost(cell); cost != 0 {
			t.Errorf("Cost(%d) = %d, want 0", cell, cost)
		}
		for _, class := range []int{0, 1, 2, 3, -1} {
			if g.May(class, cell) {
				t.Errorf("May(%d, %d)", class, cell)
			}
		}
	}
	for _, class := range []int{-1, -2, classes, classes + 1, 7, 8, 9, 64, 256, 1 << 32, math.MinInt, math.MaxInt} {
		for _, cell := range []int{0, 17, 34} {
			if g.May(class, cell) {
				t.Errorf("May(%d, %d)", class, cell)
			}
		}
	}
}

func TestAsManyKindsAndClassesAsMayBe(t *testing.T) {
	l := make([]api.Kind, api.MaxKinds)
	for i := range l {
		l[i] = api.Kind{Cost: api.MaxCost - i, Mask: uint8(1<<(i%api.MaxClasses) | i)}
	}
	g := gridOf(t, 4, 4, tableOf(t, l, api.MaxClasses))
	for kind, k := range l {
		done(t, g, kind, kind)
		if got, ok := g.Get(kind); got != kind || !ok || g.Cost(kind) != k.Cost {
			t.Errorf("kind %d: Get %d, %v, Cost %d", kind, got, ok, g.Cost(kind))
		}
		for class := range api.MaxClasses {
			if g.May(class, kind) != (k.Mask&(1<<class) != 0) {
				t.Errorf("kind %d: May(%d) = %v", kind, class, g.May(class, kind))
			}
		}
	}
	none, e := g.Set(0, api.MaxKinds)
	refused(t, "Set(0, 16)", none, e, api.ErrKind)
}

// P3.2

func TestSetChangesOneCell(t *testing.T) {
	for _, z := range []api.Size{{W: 1, H: 1}, {W: 5, H: 1}, {W: 1, H: 5}, {W: 4, H: 3}} {
		g := grid(t, z.W, z.H)
		want := make([]int, z.W*z.H)
		for cell := range want {
			for _, kind := range []int{1, 3, 0, 2} {
				want[cell] = kind
				l, e := g.Set(cell, kind)
				answers(t, "Set", l, e, cell)
				hasKinds(t, "Set", g, want)
				l, e = g.Set(cell, kind)
				answers(t, "Set to its own kind", l, e)
				hasKinds(t, "Set to its own kind", g, want)
			}
		}
	}
}

func TestSetToKindNoughtAtFirst(t *testing.T) {
	g := grid(t, 3, 3)
	for cell := range 9 {
		l, e := g.Set(cell, 0)
		answers(t, "Set to 0", l, e)
	}
}

func TestSetWrong(t *testing.T) {
	g := mixed(t)
	ahead := kindsOf(t, g)
	for _, cell := range noCells(35) {
		for kind := range kinds() {
			l, e := g.Set(cell, kind)
			refused(t, []int{cell, kind}, l, e, api.ErrBound)
		}
	}
	for _, kind := range noKinds(4) {
		for _, cell := range append(noCells(35), 0, 17, 34) {
			l, e := g.Set(cell, kind)
			refused(t, []int{cell, kind}, l, e, api.ErrKind)
		}
	}
	hasKinds(t, "wrong Set", g, ahead)
}

// rectangle are the cells of one, found by looking at every cell.
func rectangle(z api.Size, x, y, w, h int) []int {
	var l []int
	for cell := range z.W * z.H {
		if column, row := cell%z.W, cell/z.W; x <= column && column < x+w && y <= row && row < y+h {
			l = append(l, cell)
		}
	}
	return l
}

// Every rectangle with a corner and sides about a grid: filled, if it is of cells, refused else.
func TestFillOfEveryRectangle(t *testing.T) {
	for _, z := range []api.Size{{W: 1, H: 1}, {W: 4, H: 1}, {W: 1, H: 4}, {W: 4, H: 3}, {W: 3, H: 4}} {
		g := grid(t, z.W, z.H)
		n := numbers{7}
		for x := -2; x <= z.W+1; x++ {
			for y := -2; y <= z.H+1; y++ {
				for w := -2; w <= z.W+3; w++ {
					for h := -2; h <= z.H+3; h++ {
						fills(t, g, x, y, w, h, n.below(len(kinds())))
					}
				}
			}
		}
	}
}

func fills(t *testing.T, g *cells.Grid, x, y, w, h, kind int) {
	t.Helper()
	z, ahead := g.Size(), kindsOf(t, g)
	l, e := g.Fill(x, y, w, h, kind)
	if x < 0 || y < 0 || w < 1 || h < 1 || x+w > z.W || y+h > z.H {
		refused(t, []int{x, y, w, h, kind}, l, e, api.ErrBound)
		hasKinds(t, "wrong Fill", g, ahead)
		return
	}
	want := slices.Clone(ahead)
	for _, cell := range rectangle(z, x, y, w, h) {
		want[cell] = kind
	}
	answers(t, "Fill", l, e, differing(ahead, want)...)
	hasKinds(t, "Fill", g, want)
}

func TestFillToTheLastColumnAndRow(t *testing.T) {
	g := grid(t, 4, 3)
	l, e := g.Fill(2, 1, 2, 2, 1)
	answers(t, "Fill(2, 1, 2, 2, 1)", l, e, 6, 7, 10, 11)
	l, e = g.Fill(3, 0, 1, 3, 1)
	answers(t, "Fill(3, 0, 1, 3, 1)", l, e, 3)
	l, e = g.Fill(0, 2, 4, 1, 2)
	answers(t, "Fill(0, 2, 4, 1, 2)", l, e, 8, 9, 10, 11)
	l, e = g.Fill(0, 0, 4, 3, 2)
	answers(t, "Fill(0, 0, 4, 3, 2)", l, e, 0, 1, 2, 3, 4, 5, 6, 7)
	l, e = g.Fill(0, 0, 4, 3, 2)
	answers(t, "Fill once more", l, e)
	hasKinds(t, "filled", g, slices.Repeat([]int{2}, 12))
}

func TestFillOfTheGreatestGrids(t *testing.T) {
	for _, z := range []api.Size{{W: 2048, H: 2048}, {W: api.MaxSide, H: 1024}, {W: 1024, H: api.MaxSide}} {
		g := grid(t, z.W, z.H)
		done(t, g, api.MaxCells-1, 1)
		l, e := g.Fill(0, 0, z.W, z.H, 1)
		if e != api.OK || len(l) != api.MaxCells-1 || l[0] != 0 || l[api.MaxCells-2] != api.MaxCells-2 || !slices.IsSorted(l) {
			t.Errorf("%v: %d cells, %d", z, len(l), e)
		}
		l, e = g.Fill(z.W-1, z.H-1, 1, 1, 2)
		answers(t, "Fill of the last cell", l, e, api.MaxCells-1)
	}
}

func TestFillWithVeryGreatNumbers(t *testing.T) {
	g := mixed(t)
	ahead := kindsOf(t, g)
	great := []int{math.MinInt, math.MinInt + 1, math.MinInt + 6, -1 << 62, -1 << 32, 1 << 32, 1<<32 + 1, 1 << 62, 1<<63 - 6, math.MaxInt - 1, math.MaxInt}
	for _, a := range great {
		for _, b := range append(great, 1, 3) {
			for _, r := range [][4]int{{a, 0, b, 1}, {0, a, 1, b}, {b, 0, a, 1}, {0, b, 1, a}, {a, b, 1, 1}, {b, a, 1, 1}, {1, 1, a, b}, {1, 1, b, a}, {a, a, b, b}, {b, b, a, a}} {
				l, e := g.Fill(r[0], r[1], r[2], r[3], 1)
				refused(t, r, l, e, api.ErrBound)
			}
		}
	}
	hasKinds(t, "Fill with great numbers", g, ahead)
}

func TestFillWithoutSuchAKind(t *testing.T) {
	g := mixed(t)
	ahead := kindsOf(t, g)
	for _, kind := range noKinds(4) {
		for _, r := range [][4]int{{0, 0, 7, 5}, {2, 2, 1, 1}, {6, 4, 1, 1}, {0, 0, 0, 0}, {7, 5, 1, 1}, {-1, 0, 2, 2}, {0, 0, 8, 6}, {1, 1, -1, -1}} {
			l, e := g.Fill(r[0], r[1], r[2], r[3], kind)
			refused(t, r, l, e, api.ErrKind)
		}
	}
	hasKinds(t, "Fill without such a kind", g, ahead)
}

func TestBatchDoesEditsInTheirOrder(t *testing.T) {
	for _, c := range []struct {
		edits []api.Edit
		cells []int
		want  []int
	}{
		{nil, nil, []int{0, 1, 2, 3}},
		{[]api.Edit{}, nil, []int{0, 1, 2, 3}},
		{[]api.Edit{{Cell: 3, Kind: 0}}, []int{3}, []int{0, 1, 2, 0}},
		{[]api.Edit{{Cell: 3, Kind: 3}}, nil, []int{0, 1, 2, 3}},
		{[]api.Edit{{Cell: 3, Kind: 1}, {Cell: 0, Kind: 2}, {Cell: 2, Kind: 0}}, []int{0, 2, 3}, []int{2, 1, 0, 1}},
		{[]api.Edit{{Cell: 1, Kind: 2}, {Cell: 1, Kind: 3}}, []int{1}, []int{0, 3, 2, 3}},
		{[]api.Edit{{Cell: 1, Kind: 3}, {Cell: 1, Kind: 2}}, []int{1}, []int{0, 2, 2, 3}},
		{[]api.Edit{{Cell: 1, Kind: 3}, {Cell: 1, Kind: 1}}, nil, []int{0, 1, 2, 3}},
		{[]api.Edit{{Cell: 1, Kind: 3}, {Cell: 1, Kind: 1}, {Cell: 1, Kind: 3}}, []int{1}, []int{0, 3, 2, 3}},
		{[]api.Edit{{Cell: 2, Kind: 3}, {Cell: 0, Kind: 1}, {Cell: 2, Kind: 2}}, []int{0}, []int{1, 1, 2, 3}},
		{[]api.Edit{{Cell: 2, Kind: 2}, {Cell: 0, Kind: 0}, {Cell: 1, Kind: 1}, {Cell: 3, Kind: 3}}, nil, []int{0, 1, 2, 3}},
	} {
		g := grid(t, 2, 2)
		for cell := range 4 {
			done(t, g, cell, cell)
		}
		l, e := g.Batch(c.edits)
		answers(t, "Batch", l, e, c.cells...)
		hasKinds(t, "Batch", g, c.want)
	}
}

func TestBatchOfAsManyAsMayBe(t *testing.T) {
	g := grid(t, 257, 256)
	l := make([]api.Edit, api.MaxBatch+1)
	for i := range l {
		l[i] = api.Edit{Cell: api.MaxBatch - i, Kind: 1 + i%3}
	}
	ahead := kindsOf(t, g)
	got, e := g.Batch(l)
	refused(t, "Batch of one too many", got, e, api.ErrBatch)
	got, e = g.Batch(slices.Concat(l, l, l))
	refused(t, "Batch of far too many", got, e, api.ErrBatch)
	hasKinds(t, "Batch of too many", g, ahead)
	got, e = g.Batch(l[:api.MaxBatch])
	want := make([]int, api.MaxBatch)
	for i := range want {
		want[i] = i + 1
	}
	if e != api.OK || !slices.Equal(got, want) {
		t.Errorf("Batch of MaxBatch: %d cells, %d", len(got), e)
	}
	for i := range want {
		if kind, _ := g.Get(api.MaxBatch - i); kind != 1+i%3 {
			t.Errorf("cell %d is of kind %d", api.MaxBatch-i, kind)
		}
	}
	if kind, _ := g.Get(0); kind != 0 {
		t.Error("the edit too many was done")
	}
}

func TestBatchOfTooManyEditsOfOneCell(t *testing.T) {
	g := grid(t, 1, 1)
	l := slices.Repeat([]api.Edit{{Kind: 1}, {Kind: 2}}, api.MaxBatch/2)
	got, e := g.Batch(append(slices.Clone(l), api.Edit{}))
	refused(t, "Batch of one too many", got, e, api.ErrBatch)
	got, e = g.Batch(l)
	answers(t, "Batch of MaxBatch", got, e, 0)
	hasKinds(t, "Batch of MaxBatch", g, []int{2})
	got, e = g.Batch(l)
	answers(t, "Batch of MaxBatch once more", got, e)
}

// A wrong edit at the beginning, within and at the end of a batch that would change the grid.
func TestBatchWithAWrongEdit(t *testing.T) {
	g := mixed(t)
	ahead := kindsOf(t, g)
	right := []api.Edit{{Cell: 0, Kind: 1}, {Cell: 34, Kind: 3}, {Cell: 17, Kind: 0}, {Cell: 0, Kind: 2}}
	for place := range len(right) + 1 {
		for _, cell := range noCells(35) {
			for kind := range kinds() {
				l, e := g.Batch(slices.Insert(slices.Clone(right), place, api.Edit{Cell: cell, Kind: kind}))
				refused(t, []int{place, cell, kind}, l, e, api.ErrBound)
			}
		}
		for _, kind := range noKinds(4) {
			for _, cell := range append(noCells(35), 0, 34) {
				l, e := g.Batch(slices.Insert(slices.Clone(right), place, api.Edit{Cell: cell, Kind: kind}))
				refused(t, []int{place, cell, kind}, l, e, api.ErrKind)
			}
		}
	}
	hasKinds(t, "wrong Batch", g, ahead)
}

func TestBatchTellsErrorsInTheirOrder(t *testing.T) {
	g := mixed(t)
	ahead := kindsOf(t, g)
	many := make([]api.Edit, api.MaxBatch)
	noCell, noKind := api.Edit{Cell: 35, Kind: 1}, api.Edit{Cell: 1, Kind: 4}
	for i, c := range []struct {
		edits []api.Edit
		want  api.Errno
	}{
		{[]api.Edit{noCell, noKind}, api.ErrKind},
		{[]api.Edit{noKind, noCell}, api.ErrKind},
		{[]api.Edit{noCell, {Cell: 2, Kind: 1}, noKind}, api.ErrKind},
		{slices.Concat(many, []api.Edit{noCell}), api.ErrBound},
		{slices.Concat([]api.Edit{noCell}, many), api.ErrBound},
		{slices.Concat(many, []api.Edit{noKind}), api.ErrKind},
		{slices.Concat([]api.Edit{noKind}, many), api.ErrKind},
		{slices.Concat([]api.Edit{noCell}, many, []api.Edit{noKind}), api.ErrKind},
		{slices.Concat([]api.Edit{noKind}, many, []api.Edit{noCell}), api.ErrKind},
		{slices.Concat(many, many, []api.Edit{noCell}), api.ErrBound},
		{slices.Concat(many, many, []api.Edit{noKind}), api.ErrKind},
		{slices.Concat(many, []api.Edit{{Cell: 1, Kind: 3}}), api.ErrBatch},
	} {
		l, e := g.Batch(c.edits)
		refused(t, i, l, e, c.want)
	}
	hasKinds(t, "wrong Batch", g, ahead)
}

// P3.3

func TestTwinIsTheSame(t *testing.T) {
	for _, g := range []*cells.Grid{mixed(t), grid(t, 1, 1), grid(t, 5, 2)} {
		twin := g.Twin()
		if twin == nil || twin == g || twin.Size() != g.Size() || twin.Table() != g.Table() {
			t.Fatalf("%v: the twin is another one", g.Size())
		}
		hasKinds(t, "twin", twin, kindsOf(t, g))
		for cell := -1; cell <= g.Size().W*g.Size().H; cell++ {
			if twin.Cost(cell) != g.Cost(cell) {
				t.Errorf("Cost(%d) = %d, want %d", cell, twin.Cost(cell), g.Cost(cell))
			}
			for class := -1; class <= classes; class++ {
				if twin.May(class, cell) != g.May(class, cell) {
					t.Errorf("May(%d, %d) = %v", class, cell, twin.May(class, cell))
				}
			}
		}
	}
}

func TestTwinsKnowNothingOfEachOther(t *testing.T) {
	g := mixed(t)
	ahead := kindsOf(t, g)
	twin := g.Twin()
	third := twin.Twin()
	if _, e := g.Fill(0, 0, 7, 5, 1); e != api.OK {
		t.Fatal(e)
	}
	hasKinds(t, "twin of a filled grid", twin, ahead)
	if _, e := twin.Batch([]api.Edit{{Cell: 0, Kind: 3}, {Cell: 34, Kind: 3}}); e != api.OK {
		t.Fatal(e)
	}
	hasKinds(t, "grid of an edited twin", g, slices.Repeat([]int{1}, 35))
	hasKinds(t, "twin of an edited twin", third, ahead)
	done(t, third, 17, 3-ahead[17])
	want := slices.Clone(ahead)
	want[0], want[34] = 3, 3
	hasKinds(t, "edited twin", twin, want)
}

func TestNilGrid(t *testing.T) {
	var g *cells.Grid
	if g.Size() != (api.Size{}) || g.Table() != nil || g.Twin() != nil {
		t.Error("a nil grid has a size, a table or a twin")
	}
	tellsNothing(t, g)
	for _, n := range []int{0, 1, -1, 5, math.MinInt, math.MaxInt} {
		l, e := g.Set(n, n)
		refused(t, n, l, e, api.ErrNil)
		l, e = g.Fill(n, n, n, n, n)
		refused(t, n, l, e, api.ErrNil)
		l, e = g.Batch([]api.Edit{{Cell: n, Kind: n}})
		refused(t, n, l, e, api.ErrNil)
	}
	l, e := g.Batch(nil)
	refused(t, "Batch of none", l, e, api.ErrNil)
	l, e = g.Batch(make([]api.Edit, api.MaxBatch+1))
	refused(t, "Batch of too many", l, e, api.ErrNil)
}

func tellsNothing(t *testing.T, g *cells.Grid) {
	t.Helper()
	for _, cell := range append(noCells(0), 0, 1) {
		if kind, ok := g.Get(cell); kind != 0 || ok {
			t.Errorf("Get(%d) = %d, %v", cell, kind, ok)
		}
		if cost := g.Cost(cell); cost != 0 {
			t.Errorf("Cost(%d) = %d", cell, cost)
		}
		for _, class := range []int{-1, 0, 1, math.MaxInt} {
			if g.May(class, cell) {
				t.Errorf("May(%d, %d)", class, cell)
			}
		}
	}
}

func TestGridThatNewDidNotMake(t *testing.T) {
	g := new(cells.Grid)
	for _, g := range []*cells.Grid{g, {}, g.Twin(), g.Twin().Twin()} {
		if g == nil {
			t.Fatal("a grid without cells has no twin")
		}
		if g.Size() != (api.Size{}) || g.Table().Kinds() != 0 {
			t.Errorf("Size %v, %d kinds", g.Size(), g.Table().Kinds())
		}
		tellsNothing(t, g)
		for _, n := range []int{0, 1, -1, 5, math.MinInt, math.MaxInt} {
			l, e := g.Set(n, n)
			refused(t, n, l, e, api.ErrKind)
			l, e = g.Fill(n, n, n, n, n)
			refused(t, n, l, e, api.ErrKind)
			l, e = g.Batch([]api.Edit{{Cell: n, Kind: n}})
			refused(t, n, l, e, api.ErrKind)
		}
		l, e := g.Fill(0, 0, 1, 1, 0)
		refused(t, "Fill", l, e, api.ErrKind)
		l, e = g.Batch(make([]api.Edit, api.MaxBatch+1))
		refused(t, "Batch of too many", l, e, api.ErrKind)
		l, e = g.Batch(nil)
		answers(t, "Batch of none", l, e)
		l, e = g.Batch([]api.Edit{})
		answers(t, "Batch of none", l, e)
	}
}

// P3.4

func someEdits(n *numbers, many, cellsEnd int) []api.Edit {
	l := make([]api.Edit, many)
	for i := range l {
		l[i] = api.Edit{Cell: n.below(cellsEnd), Kind: n.below(len(kinds()))}
	}
	return l
}

func TestABatchIsItsEdits(t *testing.T) {
	n := numbers{1}
	g := mixed(t)
	for many := range 120 {
		one := g.Twin()
		ahead := kindsOf(t, g)
		l := someEdits(&n, many, 35)
		got, e := g.Batch(l)
		for _, edit := range l {
			done(t, one, edit.Cell, edit.Kind)
		}
		hasKinds(t, "Batch", g, kindsOf(t, one))
		answers(t, "Batch", got, e, differing(ahead, kindsOf(t, one))...)
	}
}

func TestAFilledRectangleIsABatchOfItsCells(t *testing.T) {
	n := numbers{2}
	g := mixed(t)
	for range 300 {
		x, y := n.below(7), n.below(5)
		w, h, kind := 1+n.below(7-x), 1+n.below(5-y), n.below(len(kinds()))
		var l []api.Edit
		for _, cell := range rectangle(g.Size(), x, y, w, h) {
			l = append(l, api.Edit{Cell: cell, Kind: kind})
		}
		other := g.Twin()
		want, e := other.Batch(l)
		if e != api.OK {
			t.Fatal(e)
		}
		got, e := g.Fill(x, y, w, h, kind)
		answers(t, "Fill", got, e, want...)
		hasKinds(t, "Fill", g, kindsOf(t, other))
		g.Batch(someEdits(&n, 9, 35))
	}
}

func TestWhatChangedBackIsAsItWas(t *testing.T) {
	n := numbers{3}
	g := mixed(t)
	for many := range 60 {
		ahead := kindsOf(t, g)
		changed, e := g.Batch(someEdits(&n, many, 35))
		if e != api.OK {
			t.Fatal(e)
		}
		var back []api.Edit
		for _, cell := range changed {
			back = append(back, api.Edit{Cell: cell, Kind: ahead[cell]})
		}
		again, e := g.Batch(back)
		answers(t, "Batch of the changed cells", again, e, changed...)
		hasKinds(t, "changed back", g, ahead)
		g.Batch(someEdits(&n, 5, 35))
	}
}

// The rules

func TestBatchNeitherChangesNorKeepsItsEdits(t *testing.T) {
	given := []api.Edit{{Cell: 9, Kind: 1}, {Cell: 3, Kind: 2}, {Cell: 9, Kind: 3}, {Cell: -5, Kind: 77}, {Cell: 4, Kind: 1}}
	want := slices.Clone(given)
	g := grid(t, 4, 3)
	l, e := g.Batch(given[:3])
	answers(t, "Batch", l, e, 3, 9)
	g.Batch(given[:4])
	if !slices.Equal(given, want) {
		t.Errorf("the edits are %v, were %v", given, want)
	}
	kinds := kindsOf(t, g)
	clear(given)
	hasKinds(t, "edits cleared", g, kinds)
}

func TestAnswersAreNewMemory(t *testing.T) {
	g := grid(t, 4, 3)
	a, _ := g.Fill(0, 0, 4, 3, 1)
	b, _ := g.Fill(0, 0, 4, 3, 2)
	c, _ := g.Batch([]api.Edit{{Cell: 1, Kind: 0}, {Cell: 2, Kind: 0}})
	d, _ := g.Set(1, 3)
	want := kindsOf(t, g)
	for _, l := range [][]int{a, b, c, d} {
		l = l[:cap(l)]
		for i := range l {
			l[i] = -7
		}
		hasKinds(t, "answers written over", g, want)
	}
	l, e := g.Fill(0, 0, 4, 3, 1)
	answers(t, "Fill", l, e, 0, 1, 2, 3, 4, 5, 6, 7, 8, 9, 10, 11)
	_ = append(l[:4], 99, 98)
	l, e = g.Fill(0, 0, 2, 1, 0)
	answers(t, "Fill", l, e, 0, 1)
}

func TestGridsOfOneTableStandAlone(t *testing.T) {
	x := table(t)
	a, b := gridOf(t, 3, 2, x), gridOf(t, 3, 2, x)
	l, e := a.Fill(0, 0, 3, 2, 2)
	answers(t, "Fill", l, e, 0, 1, 2, 3, 4, 5)
	hasKinds(t, "the other grid", b, make([]int, 6))
	if !slices.Equal(x.All(), kinds()) || x.Classes() != classes {
		t.Errorf("the table is %v, %d", x.All(), x.Classes())
	}
}

func TestExamples(t *testing.T) {
	g := gridOf(t, 4, 3, tableOf(t, []api.Kind{{Cost: 1, Mask: 1}, {Cost: 2, Mask: 1}}, 1))
	l, e := g.Set(5, 1)
	answers(t, "Set(5, 1)", l, e, 5)
	l, e = g.Set(5, 1)
	answers(t, "Set(5, 1) again", l, e)
	l, e = g.Set(12, 1)
	refused(t, "Set(12, 1)", l, e, api.ErrBound)
	l, e = g.Set(5, 2)
	refused(t, "Set(5, 2)", l, e, api.ErrKind)
	if kind, ok := g.Get(5); kind != 1 || !ok {
		t.Errorf("Get(5) = %d, %v", kind, ok)
	}
	l, e = g.Fill(1, 0, 2, 2, 1)
	answers(t, "Fill(1, 0, 2, 2, 1)", l, e, 1, 2, 6)
	l, e = g.Fill(3, 0, 2, 1, 1)
	refused(t, "Fill(3, 0, 2, 1, 1)", l, e, api.ErrBound)
	l, e = g.Batch([]api.Edit{{Cell: 0, Kind: 1}, {Cell: 0, Kind: 0}, {Cell: 1, Kind: 0}})
	answers(t, "Batch", l, e, 1)
}
