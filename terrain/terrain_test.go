package terrain_test

import (
	"math"
	"slices"
	"testing"

	"tidewalk/api"
	"tidewalk/terrain"
)

// Kinds and classes that make a table.
type given struct {
	kinds   []api.Kind
	classes int
}

func example() given {
	return given{[]api.Kind{{Cost: 1, Mask: 3}, {Cost: 5, Mask: 2}, {Cost: 9, Mask: 0}}, 2}
}

// As many kinds as may be, costs and masks spread over all that may be.
func greatest() given {
	l := make([]api.Kind, api.MaxKinds)
	for i := range l {
		l[i] = api.Kind{Cost: api.MaxCost - 16*i, Mask: uint8(1<<(i%api.MaxClasses) | i)}
	}
	return given{l, api.MaxClasses}
}

func rightOnes() []given {
	return []given{
		example(),
		greatest(),
		{[]api.Kind{{Cost: 1, Mask: 1}}, 1},
		{[]api.Kind{{Cost: 1, Mask: 0}}, 1},
		{[]api.Kind{{Cost: api.MaxCost, Mask: 1}}, 1},
		{[]api.Kind{{Cost: 1, Mask: 0}}, api.MaxClasses},
		{[]api.Kind{{Cost: api.MaxCost, Mask: 255}}, api.MaxClasses},
		{[]api.Kind{{Cost: 7, Mask: 128}}, api.MaxClasses},
		{[]api.Kind{{Cost: 7, Mask: 64}, {Cost: 6, Mask: 127}}, 7},
		{[]api.Kind{{Cost: 4, Mask: 1}, {Cost: 3, Mask: 1}, {Cost: 2, Mask: 0}, {Cost: 3, Mask: 1}, {Cost: 8, Mask: 5}}, 3},
		{[]api.Kind{{Cost: 2, Mask: 1}, {Cost: 2, Mask: 1}}, 4},
	}
}

// All tables of up to three kinds, of few costs and masks, and up to three classes.
func smallOnes() []given {
	var l []given
	for classes := 1; classes <= 3; classes++ {
		var kinds []api.Kind
		for mask := 0; mask < 1<<classes; mask++ {
			for _, cost := range []int{1, 2, api.MaxCost} {
				kinds = append(kinds, api.Kind{Cost: cost, Mask: uint8(mask)})
			}
		}
		for _, a := range kinds {
			l = append(l, given{[]api.Kind{a}, classes})
			for _, b := range kinds {
				l = append(l, given{[]api.Kind{a, b}, classes})
				for _, c := range kinds {
					l = append(l, given{[]api.Kind{a, b, c}, classes})
				}
			}
		}
	}
	return l
}

func allOnes() []given { return append(rightOnes(), smallOnes()...) }

func made(t *testing.T, g given) *terrain.Table {
	t.Helper()
	x, e := terrain.New(g.kinds, g.classes)
	if e != api.OK || x == nil {
		t.Fatalf("New(%v, %d) = %v, %d: want a table", g.kinds, g.classes, x, e)
	}
	return x
}

// Numbers about those from 0 to end, and such as wrap round or fall on one of them when they are cut short.
func numbersAbout(end int) []int {
	l := []int{math.MinInt, math.MinInt + 1, -1 << 32, -256, -64, -8, math.MaxInt, math.MaxInt - 1, 1 << 32, 1 << 62, 256, 257, 64, 65, 32, 16, 8}
	for n := -3; n <= end+3; n++ {
		l = append(l, n)
	}
	return l
}

func (g given) may(class, kind int) bool {
	if class < 0 || class >= g.classes || kind < 0 || kind >= len(g.kinds) {
		return false
	}
	bits := int(g.kinds[kind].Mask)
	for range class {
		bits /= 2
	}
	return bits%2 == 1
}

func (g given) least(class int) (int, bool) {
	var costs []int
	for kind, k := range g.kinds {
		if g.may(class, kind) {
			costs = append(costs, k.Cost)
		}
	}
	if len(costs) == 0 {
		return 0, false
	}
	return slices.Min(costs), true
}

// answersAs holds all that a table answers against what it was made of.
func answersAs(t *testing.T, x *terrain.Table, g given) {
	t.Helper()
	if x.Kinds() != len(g.kinds) || x.Classes() != g.classes {
		t.Errorf("%v: Kinds %d, Classes %d", g, x.Kinds(), x.Classes())
	}
	if !slices.Equal(x.All(), g.kinds) {
		t.Errorf("%v: All %v", g, x.All())
	}
	for _, kind := range numbersAbout(len(g.kinds)) {
		want := 0
		if 0 <= kind && kind < len(g.kinds) {
			want = g.kinds[kind].Cost
		}
		if got := x.Cost(kind); got != want {
			t.Errorf("%v: Cost(%d) = %d, want %d", g, kind, got, want)
		}
	}
	for _, class := range numbersAbout(g.classes) {
		want, wantOK := g.least(class)
		if got, ok := x.Least(class); got != want || ok != wantOK {
			t.Errorf("%v: Least(%d) = %d, %v, want %d, %v", g, class, got, ok, want, wantOK)
		}
		for _, kind := range numbersAbout(len(g.kinds)) {
			if got := x.May(class, kind); got != g.may(class, kind) {
				t.Errorf("%v: May(%d, %d) = %v", g, class, kind, got)
			}
		}
	}
}

// P2.1, P2.2.
func TestTablesAnswerWhatTheyAreMadeOf(t *testing.T) {
	for _, g := range allOnes() {
		answersAs(t, made(t, g), g)
	}
}

// P2.1: each number of kinds, of classes and each cost, from below the least to beyond the greatest.
func TestNewAtTheLimits(t *testing.T) {
	check := func(g given, want bool) {
		t.Helper()
		x, e := terrain.New(g.kinds, g.classes)
		if want && (x == nil || e != api.OK) || !want && (x != nil || e != api.ErrArg) {
			t.Errorf("New(%v, %d) = %v, %d: want a table: %v", g.kinds, g.classes, x, e, want)
		}
	}
	for n := 0; n <= 2*api.MaxKinds; n++ {
		check(given{slices.Repeat([]api.Kind{{Cost: 1, Mask: 1}}, n), 1}, 1 <= n && n <= api.MaxKinds)
	}
	for _, classes := range numbersAbout(2 * api.MaxClasses) {
		check(given{[]api.Kind{{Cost: 1}}, classes}, 1 <= classes && classes <= api.MaxClasses)
	}
	for _, cost := range numbersAbout(2 * api.MaxCost) {
		ok := 1 <= cost && cost <= api.MaxCost
		check(given{[]api.Kind{{Cost: cost, Mask: 1}}, 1}, ok)
		check(given{[]api.Kind{{Cost: cost}, {Cost: 1}}, 1}, ok)
		check(given{[]api.Kind{{Cost: 1}, {Cost: 1}, {Cost: cost}}, 1}, ok)
	}
}

// P2.1: each mask with each number of classes, on the first kind, on one between and on the last one.
func TestNewTurnsAwayBitsOfNoClass(t *testing.T) {
	for classes := 1; classes <= api.MaxClasses; classes++ {
		for mask := 0; mask < 256; mask++ {
			for at := range 3 {
				l := []api.Kind{{Cost: 1}, {Cost: 2, Mask: 1}, {Cost: 3}}
				l[at].Mask = uint8(mask)
				x, e := terrain.New(l, classes)
				want := mask < 1<<classes
				if (x != nil) != want || (e == api.OK) != want || !want && e != api.ErrArg {
					t.Errorf("mask %d on kind %d, %d classes: %v, %d", mask, at, classes, x, e)
				}
			}
		}
	}
}

// P2.1: a fault is found beside another one, and behind as many right kinds as may be.
func TestNewWrong(t *testing.T) {
	last := greatest()
	last.kinds[api.MaxKinds-1].Cost = 0
	for _, g := range []given{
		{nil, 1}, {[]api.Kind{}, 1}, {nil, 0}, {nil, math.MinInt}, {nil, math.MaxInt},
		{example().kinds, 0}, {example().kinds, 1}, {example().kinds, 9}, {example().kinds, -2},
		{example().kinds, math.MinInt}, {example().kinds, math.MaxInt},
		{make([]api.Kind, 1), 1}, {make([]api.Kind, api.MaxKinds+1), 1},
		{slices.Repeat([]api.Kind{{Cost: 1}}, 1<<16), 1},
		{[]api.Kind{{Cost: 1, Mask: 4}}, 2},
		{[]api.Kind{{Cost: 1, Mask: 128}}, 7},
		{[]api.Kind{{Cost: math.MinInt, Mask: 255}}, 1},
		last,
	} {
		if x, e := terrain.New(g.kinds, g.classes); x != nil || e != api.ErrArg {
			t.Errorf("New of %d kinds, %d classes = %v, %d: want nil, ErrArg", len(g.kinds), g.classes, x, e)
		}
	}
}

// P2.2: of a nil table, and of one that New did not make.
func TestNoTable(t *testing.T) {
	for _, x := range []*terrain.Table{nil, {}, new(terrain.Table)} {
		answersAs(t, x, given{})
	}
}

// The chapter's examples.
func TestExamples(t *testing.T) {
	x := made(t, example())
	for _, l := range []struct {
		class, kind int
		want        bool
	}{{0, 0, true}, {0, 1, false}, {1, 1, true}, {2, 0, false}, {0, 3, false}} {
		if x.May(l.class, l.kind) != l.want {
			t.Errorf("May(%d, %d) = %v", l.class, l.kind, !l.want)
		}
	}
	for class := range 2 {
		if cost, ok := x.Least(class); cost != 1 || !ok {
			t.Errorf("Least(%d) = %d, %v", class, cost, ok)
		}
	}
	if x.Cost(1) != 5 || x.Cost(3) != 0 {
		t.Errorf("Cost(1) = %d, Cost(3) = %d", x.Cost(1), x.Cost(3))
	}
	if y, e := terrain.New([]api.Kind{{Cost: 1, Mask: 4}}, 2); y != nil || e != api.ErrArg {
		t.Errorf("a kind with mask 4 and two classes: %v, %d", y, e)
	}
}

// P2.3: a table made of All and Classes of another one answers as that does.
func TestTwinAnswersAlike(t *testing.T) {
	for _, g := range allOnes() {
		x := made(t, g)
		y := made(t, given{x.All(), x.Classes()})
		answersAs(t, y, g)
		answersAs(t, x, g)
	}
}

// P2.3: Least is the cost of a kind on which the class may stand, and no such kind costs less.
func TestLeastIsOfAKind(t *testing.T) {
	for _, g := range allOnes() {
		x := made(t, g)
		for class := range x.Classes() {
			least, ok := x.Least(class)
			stood, hit := false, false
			for kind := range x.Kinds() {
				if !x.May(class, kind) {
					continue
				}
				stood = true
				hit = hit || x.Cost(kind) == least
				if x.Cost(kind) < least {
					t.Errorf("%v: class %d: kind %d costs less than %d", g, class, kind, least)
				}
			}
			if ok != stood || ok != hit || !ok && least != 0 {
				t.Errorf("%v: Least(%d) = %d, %v", g, class, least, ok)
			}
		}
	}
}

// R4: neither what New was handed nor its spare room is changed or kept.
func TestNewKeepsAndChangesNothing(t *testing.T) {
	g := example()
	spare := api.Kind{Cost: 77, Mask: 77}
	room := append(slices.Clone(g.kinds), spare, spare, spare, spare)
	x := made(t, given{room[:len(g.kinds)], g.classes})
	if !slices.Equal(room, append(slices.Clone(g.kinds), spare, spare, spare, spare)) {
		t.Errorf("New changed what it was handed: %v", room)
	}
	for i := range room {
		room[i] = api.Kind{Cost: 200, Mask: 1}
	}
	answersAs(t, x, g)
}

// R4: what All answers is new memory, its spare room too.
func TestAllIsNewMemory(t *testing.T) {
	for _, g := range rightOnes() {
		x := made(t, g)
		one, two := x.All(), x.All()
		for i := range one[:cap(one)] {
			one[:cap(one)][i] = api.Kind{Cost: 99, Mask: 99}
		}
		if !slices.Equal(two, g.kinds) {
			t.Errorf("%v: two answers of All share memory", g)
		}
		answersAs(t, x, g)
	}
}

// R3: tables know nothing of one another.
func TestTablesStandAlone(t *testing.T) {
	a, b := made(t, example()), made(t, greatest())
	answersAs(t, a, example())
	answersAs(t, b, greatest())
	terrain.New(nil, 0)
	answersAs(t, a, example())
}
