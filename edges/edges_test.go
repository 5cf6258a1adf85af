package edges_test

import (
	"math"
	"slices"
	"testing"

	"tidewalk/api"
	"tidewalk/edges"
)

// P9.1

func TestNewIsEmpty(t *testing.T) {
	b := edges.New()
	if b == nil {
		t.Fatal("New = nil")
	}
	counts(t, b, 0)
	for _, v := range odd() {
		for _, level := range append(noLevels(), 0, 1, 62, 63) {
			holds(t, b, v, level)
			for _, e := range odd() {
				has(t, b, v, level, e, false)
				takes(t, b, v, level, e, false)
			}
		}
	}
	counts(t, b, 0)
	puts(t, b, 1, 0, 1, api.OK)
	counts(t, edges.New(), 0)
}

// The order is that of the putting, not of the numbers.
func TestPutStandsBehindAllOthers(t *testing.T) {
	b := edges.New()
	var want []int
	for _, e := range []int{5, 9, 1, 8, 2, math.MaxInt, 3, 1 << 32, 7} {
		puts(t, b, 4, 3, e, api.OK)
		want = append(want, e)
		holds(t, b, 4, 3, want...)
		counts(t, b, len(want))
	}
}

func TestPutOfOneThatStandsThere(t *testing.T) {
	x := filled(t, 4, 3, 5, 9, 1)
	for _, e := range []int{5, 9, 1, 1, 5} {
		puts(t, x.b, 4, 3, e, api.ErrThere)
		holds(t, x.b, 4, 3, 5, 9, 1)
		counts(t, x.b, 3)
	}
	x.like(t)
}

func TestPutAtAllLevels(t *testing.T) {
	x := pair()
	for level := -70; level <= 140; level++ {
		want := api.ErrArg
		if level >= 0 && level <= 63 {
			want = api.OK
		}
		puts(t, x.b, 7, level, 5, want)
		x.p.put(7, level, 5)
		has(t, x.b, 7, level, 5, want == api.OK)
	}
	counts(t, x.b, 64)
	x.like(t)
	for level := -70; level <= 140; level++ {
		takes(t, x.b, 7, level, 5, level >= 0 && level <= 63)
	}
	counts(t, x.b, 0)
}

func TestPutOfWrongLevelsAndNumbers(t *testing.T) {
	b := edges.New()
	for _, v := range odd() {
		for _, level := range noLevels() {
			for _, e := range odd() {
				puts(t, b, v, level, e, api.ErrArg)
			}
			holds(t, b, v, level)
		}
		for _, level := range []int{0, 1, 31, 32, 63} {
			for _, e := range unfit() {
				puts(t, b, v, level, e, api.ErrArg)
				has(t, b, v, level, e, false)
			}
			holds(t, b, v, level)
		}
	}
	counts(t, b, 0)
}

func TestNumbersOfAllKinds(t *testing.T) {
	x := pair()
	for _, v := range odd() {
		for _, level := range []int{0, 63} {
			for _, e := range fit() {
				puts(t, x.b, v, level, e, api.OK)
			}
		}
	}
	counts(t, x.b, 2*len(odd())*len(fit()))
	for _, v := range odd() {
		holds(t, x.b, v, 0, fit()...)
		holds(t, x.b, v, 63, fit()...)
		for _, e := range unfit() {
			has(t, x.b, v, 0, e, false)
			takes(t, x.b, v, 63, e, false)
		}
		for _, level := range append(noLevels(), 1, 62) {
			holds(t, x.b, v, level)
			for _, e := range fit() {
				has(t, x.b, v, level, e, false)
				takes(t, x.b, v, level, e, false)
			}
		}
	}
	counts(t, x.b, 2*len(odd())*len(fit()))
	for _, v := range odd() {
		for _, e := range fit() {
			takes(t, x.b, v, 0, e, true)
		}
		holds(t, x.b, v, 0)
		holds(t, x.b, v, 63, fit()...)
	}
	counts(t, x.b, len(odd())*len(fit()))
}

// Which error is told where two are due, and where one looks as if it were.
func TestOrderOfPutsErrors(t *testing.T) {
	var none *edges.Bag
	for _, level := range append(noLevels(), 0, 63) {
		for _, e := range odd() {
			puts(t, none, 1, level, e, api.ErrNil)
		}
	}
	x := pair()
	for level := range 64 {
		x.put(t, 1, level, 5)
	}
	for _, level := range noLevels() {
		puts(t, x.b, 1, level, 5, api.ErrArg)
		puts(t, x.b, 1, level, 0, api.ErrArg)
	}
	for _, e := range []int{-5, 5 - 1<<32, math.MinInt + 5, 0} {
		puts(t, x.b, 1, 0, e, api.ErrArg)
	}
	puts(t, x.b, 1, 0, 5, api.ErrThere)
	puts(t, x.b, 1, 63, 5, api.ErrThere)
	x.like(t)
	puts(t, x.b, 1, 0, 5+1<<32, api.OK)
	puts(t, x.b, 1+1<<32, 0, 5, api.OK)
}

func TestTakeLeavesItsPlaceToTheLast(t *testing.T) {
	for _, c := range []struct {
		list []int
		gone int
		want []int
	}{
		{[]int{8}, 8, nil},
		{[]int{8, 3}, 8, []int{3}},
		{[]int{8, 3}, 3, []int{8}},
		{[]int{8, 3, 5}, 8, []int{5, 3}},
		{[]int{8, 3, 5}, 3, []int{8, 5}},
		{[]int{8, 3, 5}, 5, []int{8, 3}},
		{[]int{8, 3, 5, 1, 9, 2}, 8, []int{2, 3, 5, 1, 9}},
		{[]int{8, 3, 5, 1, 9, 2}, 3, []int{8, 2, 5, 1, 9}},
		{[]int{8, 3, 5, 1, 9, 2}, 5, []int{8, 3, 2, 1, 9}},
		{[]int{8, 3, 5, 1, 9, 2}, 9, []int{8, 3, 5, 1, 2}},
		{[]int{8, 3, 5, 1, 9, 2}, 2, []int{8, 3, 5, 1, 9}},
	} {
		for _, v := range odd() {
			b := filled(t, v, 63, c.list...).b
			takes(t, b, v, 63, c.gone, true)
			holds(t, b, v, 63, c.want...)
			has(t, b, v, 63, c.gone, false)
			counts(t, b, len(c.want))
			takes(t, b, v, 63, c.gone, false)
			holds(t, b, v, 63, c.want...)
			counts(t, b, len(c.want))
		}
	}
}

// The one that moved is taken from where it moved to, and moves again.
func TestTakeOfOneThatMoved(t *testing.T) {
	b := filled(t, 2, 0, 1, 2, 3, 4, 5, 6).b
	takes(t, b, 2, 0, 2, true)
	holds(t, b, 2, 0, 1, 6, 3, 4, 5)
	takes(t, b, 2, 0, 6, true)
	holds(t, b, 2, 0, 1, 5, 3, 4)
	takes(t, b, 2, 0, 1, true)
	holds(t, b, 2, 0, 4, 5, 3)
	takes(t, b, 2, 0, 4, true)
	holds(t, b, 2, 0, 3, 5)
	takes(t, b, 2, 0, 5, true)
	takes(t, b, 2, 0, 3, true)
	holds(t, b, 2, 0)
	counts(t, b, 0)
}

func TestTakenInAllOrders(t *testing.T) {
	for n := 1; n <= 6; n++ {
		for _, order := range orders(n) {
			x := pair()
			for e := 1; e <= n; e++ {
				x.put(t, 3, 1, e)
			}
			for _, e := range order {
				x.take(t, 3, 1, e)
				x.take(t, 3, 1, e)
				x.like(t)
			}
			counts(t, x.b, 0)
		}
	}
}

func TestPutAgainBehindHavingBeenTaken(t *testing.T) {
	b := filled(t, 2, 9, 4, 5, 6).b
	for _, want := range [][]int{{6, 5, 4}, {4, 5, 6}, {4, 6, 5}} {
		e := want[2]
		takes(t, b, 2, 9, e, true)
		puts(t, b, 2, 9, e, api.OK)
		holds(t, b, 2, 9, want...)
		puts(t, b, 2, 9, e, api.ErrThere)
		counts(t, b, 3)
	}
	// The last one, and the only one, come back to where they were.
	takes(t, b, 2, 9, 5, true)
	puts(t, b, 2, 9, 5, api.OK)
	holds(t, b, 2, 9, 4, 6, 5)
	only := filled(t, 2, 9, 4).b
	for range 3 {
		takes(t, only, 2, 9, 4, true)
		holds(t, only, 2, 9)
		puts(t, only, 2, 9, 4, api.OK)
		holds(t, only, 2, 9, 4)
	}
}

func TestTakeOfWhatDoesNotStandThere(t *testing.T) {
	x := filled(t, 2, 9, 4, 5, 6)
	for range 3 {
		for _, e := range append(odd(), 3, 7, -4, 4+1<<32, 4-1<<32, math.MinInt+4) {
			takes(t, x.b, 2, 9, e, false)
		}
		for _, level := range append(noLevels(), 0, 8, 10, 63, 9+64, 9-64, 9+256, 9+1<<32) {
			takes(t, x.b, 2, level, 4, false)
		}
		for _, v := range append(odd(), 9, 3, 2+1<<32, 2-1<<32, 2+1<<58) {
			if v != 2 {
				takes(t, x.b, v, 9, 4, false)
			}
		}
		x.like(t)
	}
	// What was refused is not remembered.
	puts(t, x.b, 2, 9, 7, api.OK)
	holds(t, x.b, 2, 9, 4, 5, 6, 7)
}

// P9.2

func TestOfIsLeft(t *testing.T) {
	x := filled(t, 1, 0, 5, 6, 7, 8)
	for stop := 1; stop <= 4; stop++ {
		var got []int
		for e := range x.b.Of(1, 0) {
			got = append(got, e)
			if len(got) == stop {
				break
			}
		}
		if !slices.Equal(got, []int{5, 6, 7, 8}[:stop]) {
			t.Errorf("left behind %d: %v", stop, got)
		}
		x.like(t)
	}
}

// A walk tells nothing any more, when it has been told that it is not gone on with.
func TestOfEndsWhenItIsNotGoneOnWith(t *testing.T) {
	b := filled(t, 1, 0, 5, 6, 7, 8).b
	told := 0
	b.Of(1, 0)(func(int) bool {
		told++
		return told < 2
	})
	if told != 2 {
		t.Errorf("told %d: want 2", told)
	}
}

// A walk begins when it is ranged over, each time anew.
func TestOfBeginsWhenItIsRangedOver(t *testing.T) {
	b := edges.New()
	walk := b.Of(1, 0)
	tells := func(want ...int) {
		t.Helper()
		if got := slices.Collect(walk); !slices.Equal(got, want) {
			t.Errorf("the walk tells %v: want %v", got, want)
		}
	}
	tells()
	puts(t, b, 1, 0, 5, api.OK)
	tells(5)
	puts(t, b, 1, 0, 6, api.OK)
	puts(t, b, 1, 0, 7, api.OK)
	tells(5, 6, 7)
	tells(5, 6, 7)
	takes(t, b, 1, 0, 5, true)
	tells(7, 6)
	takes(t, b, 1, 0, 7, true)
	takes(t, b, 1, 0, 6, true)
	tells()
	puts(t, b, 1, 0, 9, api.OK)
	tells(9)
}

// changes are things that are done to the list 1 to 5 of vertex 1 and level 0 when a walk over it tells e.
func changes() map[string]func(t *testing.T, x both, e int) {
	return map[string]func(t *testing.T, x both, e int){
		"the one that is told is taken": func(t *testing.T, x both, e int) { x.take(t, 1, 0, e) },
		"the next one is taken":         func(t *testing.T, x both, e int) { x.take(t, 1, 0, e+1) },
		"the one ahead is taken":        func(t *testing.T, x both, e int) { x.take(t, 1, 0, e-1) },
		"the last one is taken":         func(t *testing.T, x both, e int) { x.take(t, 1, 0, 6-e) },
		"one more is put":               func(t *testing.T, x both, e int) { x.put(t, 1, 0, e+10) },
		"one goes to the end": func(t *testing.T, x both, e int) {
			x.take(t, 1, 0, e)
			x.put(t, 1, 0, e)
		},
		"the next one goes to the end": func(t *testing.T, x both, e int) {
			x.take(t, 1, 0, e+1)
			x.put(t, 1, 0, e+1)
		},
		"one makes room for another": func(t *testing.T, x both, e int) {
			x.take(t, 1, 0, 5)
			x.put(t, 1, 0, e+10)
		},
		"one rises a level": func(t *testing.T, x both, e int) {
			x.take(t, 1, 0, e)
			x.put(t, 1, 1, e)
		},
		"all are taken": func(t *testing.T, x both, e int) {
			for k := range 6 {
				x.take(t, 1, 0, k)
			}
		},
		"the list is emptied and filled again": func(t *testing.T, x both, e int) {
			for _, k := range x.p.of(1, 0) {
				x.take(t, 1, 0, k)
			}
			holds(t, x.b, 1, 0)
			for k := range 9 {
				x.put(t, 1, 0, 30-k-e)
			}
		},
	}
}

func TestOfWhileItIsChanged(t *testing.T) {
	for what, change := range changes() {
		x := filled(t, 1, 0, 1, 2, 3, 4, 5)
		var got []int
		for e := range x.b.Of(1, 0) {
			got = append(got, e)
			change(t, x, e)
			x.like(t)
		}
		if !slices.Equal(got, []int{1, 2, 3, 4, 5}) {
			t.Errorf("%s: the walk tells %v", what, got)
		}
		x.like(t)
	}
}

// What one turn of a walk changes is to be seen by a walk that begins then.
func TestOfWithinAnother(t *testing.T) {
	for what, change := range changes() {
		x := filled(t, 1, 0, 1, 2, 3, 4, 5)
		var outer []int
		for e := range x.b.Of(1, 0) {
			outer = append(outer, e)
			want := x.p.of(1, 0)
			var inner []int
			for k := range x.b.Of(1, 0) {
				inner = append(inner, k)
				change(t, x, e)
			}
			if !slices.Equal(inner, want) {
				t.Errorf("%s: the inner walk tells %v: want %v", what, inner, want)
			}
			x.like(t)
		}
		if !slices.Equal(outer, []int{1, 2, 3, 4, 5}) {
			t.Errorf("%s: the outer walk tells %v", what, outer)
		}
	}
}

func TestOfChangedAndLeft(t *testing.T) {
	for _, change := range changes() {
		x := filled(t, 1, 0, 1, 2, 3, 4, 5)
		for e := range x.b.Of(1, 0) {
			change(t, x, e)
			if e == 3 {
				break
			}
		}
		x.like(t)
	}
}

// What is put where nothing stood when the walk began is not told, and the walk ends, however much is put.
func TestOfOfAnEmptyListThatGrows(t *testing.T) {
	x := pair()
	for e := range x.b.Of(1, 0) {
		t.Errorf("told %d", e)
	}
	x.put(t, 1, 0, 1)
	next := 2
	for range x.b.Of(1, 0) {
		for range 100 {
			x.put(t, 1, 0, next)
			next++
		}
	}
	counts(t, x.b, 101)
	x.like(t)
}

func TestHasManyAndLen(t *testing.T) {
	b := edges.New()
	for v := range 5 {
		for level := range 4 {
			for e := 1; e <= v+level; e++ {
				puts(t, b, v, level, e, api.OK)
			}
		}
	}
	counts(t, b, 4*(0+1+2+3+4)+5*(0+1+2+3))
	for v := range 6 {
		for level := range 5 {
			many := v + level
			if v == 5 || level == 4 {
				many = 0
			}
			if got := b.Many(v, level); got != many {
				t.Errorf("Many(%d, %d) = %d: want %d", v, level, got, many)
			}
			for e := range 10 {
				has(t, b, v, level, e, e >= 1 && e <= many)
			}
		}
	}
	counts(t, b, 70)
}

func TestNilBag(t *testing.T) {
	var b *edges.Bag
	for _, v := range odd() {
		for _, level := range append(noLevels(), 0, 1, 63) {
			holds(t, b, v, level)
			for _, e := range odd() {
				puts(t, b, v, level, e, api.ErrNil)
				takes(t, b, v, level, e, false)
				has(t, b, v, level, e, false)
			}
		}
	}
	counts(t, b, 0)
}

func TestBagThatNewDidNotMake(t *testing.T) {
	x := both{new(edges.Bag), &plain{}}
	x.like(t)
	x.take(t, 1, 0, 5)
	for e := 5; e <= 8; e++ {
		x.put(t, 1, 0, e)
	}
	x.take(t, 1, 0, 6)
	x.like(t)
}

// P9.3

// One number stands at vertices and levels that a poor key would take for one another.
func TestListsKnowNothingOfEachOther(t *testing.T) {
	places := [][2]int{}
	for _, v := range append(odd(), 3, 4, 63, 64, 65, 128, -64, 3<<32, 3<<58) {
		for _, level := range []int{0, 1, 2, 3, 31, 32, 62, 63} {
			places = append(places, [2]int{v, level})
		}
	}
	for _, gone := range []int{7, 8, 9} {
		b := edges.New()
		for _, at := range places {
			for e := 7; e <= 9; e++ {
				puts(t, b, at[0], at[1], e, api.OK)
			}
		}
		for k, at := range places {
			takes(t, b, at[0], at[1], gone, true)
			takes(t, b, at[0], at[1], gone, false)
			counts(t, b, 3*len(places)-k-1)
		}
		want := map[int][]int{7: {9, 8}, 8: {7, 9}, 9: {7, 8}}[gone]
		for k, at := range places {
			holds(t, b, at[0], at[1], want...)
			takes(t, b, at[0], at[1], want[0], true)
			takes(t, b, at[0], at[1], want[1], true)
			counts(t, b, 2*(len(places)-k-1))
			if k+1 < len(places) {
				holds(t, b, places[k+1][0], places[k+1][1], want...)
			}
		}
	}
}

// A vertex, a level and a number that are the same ones in another order are another place.
func TestPlacesTurnedAbout(t *testing.T) {
	x := pair()
	for _, order := range [][3]int{{1, 2, 3}, {1, 3, 2}, {2, 1, 3}, {2, 3, 1}, {3, 1, 2}, {3, 2, 1}} {
		has(t, x.b, order[0], order[1], order[2], false)
		x.put(t, order[0], order[1], order[2])
		x.like(t)
	}
	x.take(t, 2, 1, 3)
	x.like(t)
	x.take(t, 1, 2, 3)
	x.like(t)
	counts(t, x.b, 4)
}

// One number at two vertices, and at two levels of one, is moved within its own list alone.
func TestOneNumberInSeveralLists(t *testing.T) {
	x := pair()
	for _, e := range []int{4, 5, 6} {
		x.put(t, 1, 0, e)
		x.put(t, 2, 0, 10-e)
		x.put(t, 1, 1, e%3+4)
	}
	holds(t, x.b, 1, 0, 4, 5, 6)
	holds(t, x.b, 2, 0, 6, 5, 4)
	holds(t, x.b, 1, 1, 5, 6, 4)
	x.take(t, 1, 0, 4)
	holds(t, x.b, 1, 0, 6, 5)
	holds(t, x.b, 2, 0, 6, 5, 4)
	holds(t, x.b, 1, 1, 5, 6, 4)
	x.take(t, 2, 0, 6)
	holds(t, x.b, 1, 0, 6, 5)
	holds(t, x.b, 2, 0, 4, 5)
	holds(t, x.b, 1, 1, 5, 6, 4)
	x.take(t, 1, 1, 6)
	x.take(t, 1, 1, 6)
	holds(t, x.b, 1, 0, 6, 5)
	holds(t, x.b, 2, 0, 4, 5)
	holds(t, x.b, 1, 1, 5, 4)
	x.like(t)
}

// What was put and taken again is as if it had never been, but for the order.
func TestNoTraceButTheOrder(t *testing.T) {
	next := shaken(3)
	for range 30 {
		worn, fresh := edges.New(), edges.New()
		for range 400 {
			v, level, e := next(3)-1, next(3), next(12)+1
			if worn.Put(v, level, e) != api.OK {
				takes(t, worn, v, level, e, true)
			}
		}
		for v := -1; v <= 1; v++ {
			for level := range 3 {
				// Risen by numbers: the sets are to be alike, not the orders.
				want := slices.Sorted(worn.Of(v, level))
				for _, e := range want {
					puts(t, fresh, v, level, e, api.OK)
				}
				if worn.Many(v, level) != len(want) {
					t.Fatalf("Many(%d, %d) = %d: want %d", v, level, worn.Many(v, level), len(want))
				}
				for e := range 14 {
					has(t, worn, v, level, e, fresh.Has(v, level, e))
				}
			}
		}
		counts(t, worn, fresh.Len())
	}
}

// A bag out of which all was taken is as a new one, its order too.
func TestEmptiedIsAsNew(t *testing.T) {
	next := shaken(8)
	b := edges.New()
	for round := range 40 {
		x := both{b, &plain{}}
		for range 60 {
			x.put(t, next(4), next(64), next(9)+1)
			x.take(t, next(4), next(64), next(9)+1)
		}
		x.like(t)
		for len(x.p.all) > 0 {
			y := x.p.all[next(len(x.p.all))]
			x.take(t, y.v, y.level, y.e)
		}
		x.like(t)
		for e := 1; e <= 3; e++ {
			puts(t, b, 0, 0, (e+round)%3+1, api.OK)
		}
		holds(t, b, 0, 0, (1+round)%3+1, (2+round)%3+1, round%3+1)
		for e := 1; e <= 3; e++ {
			takes(t, b, 0, 0, e, true)
		}
	}
}

// step does to both, at places and of numbers that come up often enough to be met again, what next tells.
func step(t *testing.T, x both, next func(int) int) {
	t.Helper()
	levels := []int{0, 1, 2, 63, 64, -1}
	v, level, e := next(5)-2, levels[next(4)], next(14)+1
	switch next(12) {
	case 0:
		x.put(t, v, levels[next(6)], next(4)-1)
	case 1:
		x.take(t, v, levels[next(6)], next(4)-1)
	case 2:
		if n := len(x.p.all); n > 0 {
			y := x.p.all[next(n)]
			x.put(t, y.v, y.level, y.e)
			x.take(t, y.v, y.level, y.e)
		}
	case 3, 4, 5, 6:
		x.take(t, v, level, e)
	default:
		x.put(t, v, level, e)
	}
}

func TestLongRuns(t *testing.T) {
	for seed := range uint64(20) {
		x, next := pair(), shaken(seed)
		for k := range 1500 {
			step(t, x, next)
			if k%25 == 0 {
				x.like(t)
			}
		}
		x.like(t)
	}
}

func TestManyNumbersInOneList(t *testing.T) {
	const many = 200000
	b := edges.New()
	list := make([]int, 0, many)
	for e := 1; e <= many; e++ {
		puts(t, b, 5, 63, e*1000003, api.OK)
		list = append(list, e*1000003)
	}
	holds(t, b, 5, 63, list...)
	counts(t, b, many)
	next := shaken(1)
	for len(list) > many/2 {
		k := next(len(list))
		takes(t, b, 5, 63, list[k], true)
		list[k] = list[len(list)-1]
		list = list[:len(list)-1]
	}
	holds(t, b, 5, 63, list...)
	counts(t, b, many/2)
	for e := range b.Of(5, 63) {
		takes(t, b, 5, 63, e, true)
	}
	holds(t, b, 5, 63)
	counts(t, b, 0)
}

func TestManyLists(t *testing.T) {
	const many = 3000
	b := edges.New()
	at := func(v int) int { return (v - many/2) * 0x123456789abc }
	for v := range many {
		for level := range 64 {
			puts(t, b, at(v), level, v+1, api.OK)
			puts(t, b, at(v), level, level+many+1, api.OK)
		}
	}
	counts(t, b, 2*64*many)
	for v := range many {
		for level := range 64 {
			if (v+level)%2 == 0 {
				takes(t, b, at(v), level, v+1, true)
			}
		}
	}
	counts(t, b, 3*32*many)
	for v := range many {
		for level := range 64 {
			if (v+level)%2 == 0 {
				holds(t, b, at(v), level, level+many+1)
			} else {
				holds(t, b, at(v), level, v+1, level+many+1)
			}
		}
	}
}

// The rules

func TestErrorsChangeNothing(t *testing.T) {
	x := filled(t, 1, 0, 5, 6, 7)
	x.put(t, 1, 63, 5)
	x.put(t, 2, 0, 6)
	for range 3 {
		puts(t, x.b, 1, 64, 5, api.ErrArg)
		puts(t, x.b, 1, -1, 5, api.ErrArg)
		puts(t, x.b, 1, 0, 0, api.ErrArg)
		puts(t, x.b, 3, 0, -1, api.ErrArg)
		puts(t, x.b, 1, 0, 6, api.ErrThere)
		puts(t, x.b, 1, 63, 5, api.ErrThere)
		takes(t, x.b, 1, 0, 8, false)
		takes(t, x.b, 3, 0, 5, false)
		takes(t, x.b, 1, 64, 5, false)
		x.like(t)
	}
	x.put(t, 1, 0, 8)
	x.take(t, 1, 0, 5)
	x.like(t)
}

func TestBagsKnowNothingOfOneAnother(t *testing.T) {
	a, b, c := filled(t, 1, 0, 5, 6, 7), filled(t, 1, 0, 5, 6, 7), filled(t, 1, 0, 7, 6)
	a.take(t, 1, 0, 5)
	a.put(t, 2, 0, 5)
	b.like(t)
	c.like(t)
	b.take(t, 1, 0, 7)
	b.put(t, 1, 0, 8)
	a.like(t)
	c.like(t)
	var got []int
	for e := range b.b.Of(1, 0) {
		got = append(got, e)
		a.take(t, 1, 0, e)
		c.put(t, 1, 0, e)
	}
	if !slices.Equal(got, []int{5, 6, 8}) {
		t.Errorf("walked: %v", got)
	}
	a.like(t)
	b.like(t)
	c.like(t)
}

func TestBagsInTurns(t *testing.T) {
	xs := []both{pair(), pair(), {new(edges.Bag), &plain{}}}
	next := shaken(17)
	for k := range 3000 {
		step(t, xs[k%3], next)
		if k%150 == 0 {
			for _, x := range xs {
				x.like(t)
			}
		}
	}
	for _, x := range xs {
		x.like(t)
	}
}

// What is told is a copy: a list that a walk was collected into is the collector's own.
func TestWhatIsToldIsNewMemory(t *testing.T) {
	x := filled(t, 1, 0, 5, 6, 7)
	l := slices.Collect(x.b.Of(1, 0))
	l[0], l[1] = 99, 98
	x.like(t)
	x.take(t, 1, 0, 6)
	x.put(t, 1, 0, 9)
	if !slices.Equal(l, []int{99, 98, 7}) {
		t.Errorf("the list became %v", l)
	}
}

func TestExamples(t *testing.T) {
	b := edges.New()
	puts(t, b, 1, 0, 5, api.OK)
	puts(t, b, 1, 0, 6, api.OK)
	puts(t, b, 1, 0, 7, api.OK)
	puts(t, b, 1, 0, 5, api.ErrThere)
	takes(t, b, 1, 0, 5, true)
	holds(t, b, 1, 0, 7, 6)

	puts(t, b, 1, 64, 5, api.ErrArg)
	puts(t, b, 1, 0, 0, api.ErrArg)
	puts(t, b, 1, 1, 7, api.OK)
	holds(t, b, 1, 0, 7, 6)
	counts(t, b, 3)
}
