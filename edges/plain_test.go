package edges_test

import (
	"math"
	"slices"
	"testing"

	"tidewalk/api"
	"tidewalk/edges"
)

// entry is a number, and where it stands.
type entry struct{ v, level, e int }

// plain is a bag as one list of all that stands in it: the numbers of a vertex and a level are in their order, with those of others between them.
type plain struct{ all []entry }

func (p *plain) of(v, level int) []int {
	var l []int
	for _, x := range p.all {
		if x.v == v && x.level == level {
			l = append(l, x.e)
		}
	}
	return l
}

func (p *plain) put(v, level, e int) api.Errno {
	if level < 0 || level >= 64 || e <= 0 {
		return api.ErrArg
	}
	if slices.Contains(p.all, entry{v, level, e}) {
		return api.ErrThere
	}
	p.all = append(p.all, entry{v, level, e})
	return api.OK
}

func (p *plain) take(v, level, e int) bool {
	gone := slices.Index(p.all, entry{v, level, e})
	if gone < 0 {
		return false
	}
	last := gone
	for k, x := range p.all {
		if x.v == v && x.level == level {
			last = k
		}
	}
	p.all[gone] = p.all[last]
	p.all = slices.Delete(p.all, last, last+1)
	return true
}

func puts(t *testing.T, b *edges.Bag, v, level, e int, want api.Errno) {
	t.Helper()
	if got := b.Put(v, level, e); got != want {
		t.Fatalf("Put(%d, %d, %d) = %d: want %d", v, level, e, got, want)
	}
}

func takes(t *testing.T, b *edges.Bag, v, level, e int, want bool) {
	t.Helper()
	if got := b.Take(v, level, e); got != want {
		t.Fatalf("Take(%d, %d, %d) = %v: want %v", v, level, e, got, want)
	}
}

func has(t *testing.T, b *edges.Bag, v, level, e int, want bool) {
	t.Helper()
	if got := b.Has(v, level, e); got != want {
		t.Fatalf("Has(%d, %d, %d) = %v: want %v", v, level, e, got, want)
	}
}

// holds holds a list against what stands at a vertex and a level, and how many that are.
func holds(t *testing.T, b *edges.Bag, v, level int, want ...int) {
	t.Helper()
	if got := slices.Collect(b.Of(v, level)); !slices.Equal(got, want) {
		t.Fatalf("Of(%d, %d) = %v: want %v", v, level, got, want)
	}
	if got := b.Many(v, level); got != len(want) {
		t.Fatalf("Many(%d, %d) = %d: want %d", v, level, got, len(want))
	}
	for _, e := range want {
		has(t, b, v, level, e, true)
	}
}

func counts(t *testing.T, b *edges.Bag, want int) {
	t.Helper()
	if got := b.Len(); got != want {
		t.Fatalf("Len = %d: want %d", got, want)
	}
}

// both is a bag beside a plain one to which the same is done.
type both struct {
	b *edges.Bag
	p *plain
}

func pair() both { return both{edges.New(), &plain{}} }

func (x both) put(t *testing.T, v, level, e int) {
	t.Helper()
	puts(t, x.b, v, level, e, x.p.put(v, level, e))
}

func (x both) take(t *testing.T, v, level, e int) {
	t.Helper()
	takes(t, x.b, v, level, e, x.p.take(v, level, e))
}

// like holds all that a bag tells against the plain one, at all places and of all numbers that the plain one has, and at wrong ones.
func (x both) like(t *testing.T) {
	t.Helper()
	counts(t, x.b, len(x.p.all))
	vertices, lows, numbers := []int{0, -1, 1 << 33}, []int{-1, 0, 1, 63, 64}, []int{-1, 0, 1 << 33}
	for _, y := range x.p.all {
		vertices, lows, numbers = append(vertices, y.v), append(lows, y.level), append(numbers, y.e)
	}
	for _, v := range distinct(vertices) {
		for _, level := range distinct(lows) {
			want := x.p.of(v, level)
			holds(t, x.b, v, level, want...)
			for _, e := range distinct(numbers) {
				has(t, x.b, v, level, e, slices.Contains(want, e))
			}
		}
	}
}

func distinct(l []int) []int {
	return slices.Compact(slices.Sorted(slices.Values(l)))
}

// filled has the numbers l at v and level, and no others.
func filled(t *testing.T, v, level int, l ...int) both {
	t.Helper()
	x := pair()
	for _, e := range l {
		x.put(t, v, level, e)
	}
	holds(t, x.b, v, level, l...)
	return x
}

// odd are numbers at the ends of what 8, 16, 32 and 64 bits hold, and around 0: any of them may be a vertex.
func odd() []int {
	return []int{0, 1, -1, 2, -2, 255, 256, 257, -256, 1 << 16, 1<<16 + 1, math.MaxInt32, 1 << 31, math.MinInt32,
		1 << 32, 1<<32 + 1, -1 << 32, 1 - 1<<32, 1 << 40, 1 << 57, 1 << 58, 1<<58 + 1, 1 << 62, math.MaxInt, math.MaxInt - 1, math.MinInt, math.MinInt + 1}
}

// fit are numbers that may stand at a vertex, unfit are those that may not.
func fit() []int {
	return slices.DeleteFunc(odd(), func(e int) bool { return e < 1 })
}

func unfit() []int {
	return slices.DeleteFunc(odd(), func(e int) bool { return e >= 1 })
}

// noLevels are numbers that are no level, some of which have the low bits of one.
func noLevels() []int {
	return []int{-1, 64, -2, 65, -63, -64, 100, 127, 128, 255, 256, 257, -256, 1 << 16, math.MaxInt32, math.MinInt32, 1 << 32, 1<<32 + 1, 1<<32 + 63, -1 << 32, 1 - 1<<32, 1 << 58, 1 << 62, math.MaxInt, math.MinInt, math.MinInt + 1}
}

// shaken are numbers from all over, the same ones for the same seed.
func shaken(seed uint64) func(int) int {
	return func(n int) int {
		seed = seed*6364136223846793005 + 1442695040888963407
		return int((seed >> 33) % uint64(n))
	}
}

// orders are all orders of the numbers from 1 to n.
func orders(n int) [][]int {
	if n == 0 {
		return [][]int{nil}
	}
	var all [][]int
	for _, l := range orders(n - 1) {
		for k := range n {
			all = append(all, slices.Insert(slices.Clone(l), k, n))
		}
	}
	return all
}
