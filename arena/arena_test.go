package arena_test

import (
	"math"
	"slices"
	"testing"

	"tidewalk/arena"
)

// plain is an arena as a list of what each slot has, and a list of the free slots in the order in which they were freed.
type plain struct {
	things []int
	taken  []bool
	freed  []int32
}

func (p *plain) has(i int32) bool { return i >= 1 && int(i) <= len(p.taken) && p.taken[i-1] }

func (p *plain) take(x int) int32 {
	if n := len(p.freed); n > 0 {
		i := p.freed[n-1]
		p.freed = p.freed[:n-1]
		p.things[i-1], p.taken[i-1] = x, true
		return i
	}
	p.things, p.taken = append(p.things, x), append(p.taken, true)
	return int32(len(p.things))
}

func (p *plain) free(i int32) bool {
	if !p.has(i) {
		return false
	}
	p.taken[i-1] = false
	p.freed = append(p.freed, i)
	return true
}

// like holds an arena against a plain one: all its slots, the numbers around them, and how many there are.
func like(t *testing.T, a *arena.Arena[int], p *plain) {
	t.Helper()
	if a.Len() != len(p.taken)-len(p.freed) || a.Slots() != len(p.taken) {
		t.Fatalf("Len, Slots = %d, %d: want %d, %d", a.Len(), a.Slots(), len(p.taken)-len(p.freed), len(p.taken))
	}
	for i := int32(-2); int(i) <= len(p.taken)+3; i++ {
		x := a.At(i)
		if (x != nil) != p.has(i) {
			t.Fatalf("At(%d) = %v: is it taken? %v", i, x, p.has(i))
		}
		if x != nil && *x != p.things[i-1] {
			t.Fatalf("At(%d) has %d: want %d", i, *x, p.things[i-1])
		}
	}
}

func takes[T any](t *testing.T, a *arena.Arena[T], x T, want int32) {
	t.Helper()
	if i := a.Take(x); i != want {
		t.Fatalf("Take(%v) = %d: want %d", x, i, want)
	}
}

func frees[T any](t *testing.T, a *arena.Arena[T], i int32, want bool) {
	t.Helper()
	if ok := a.Free(i); ok != want {
		t.Fatalf("Free(%d) = %v: want %v", i, ok, want)
	}
}

func has[T comparable](t *testing.T, a *arena.Arena[T], i int32, want T) {
	t.Helper()
	if x := a.At(i); x == nil || *x != want {
		t.Fatalf("At(%d) = %v: want %v there", i, x, want)
	}
}

func hasNone[T any](t *testing.T, a *arena.Arena[T], i int32) {
	t.Helper()
	if x := a.At(i); x != nil {
		t.Fatalf("At(%d) has %v: want nil", i, *x)
	}
}

func counts[T any](t *testing.T, a *arena.Arena[T], taken, slots int) {
	t.Helper()
	if a.Len() != taken || a.Slots() != slots {
		t.Fatalf("Len, Slots = %d, %d: want %d, %d", a.Len(), a.Slots(), taken, slots)
	}
}

// filled is an arena whose slots 1 to n have 100 to 100 * n.
func filled(t *testing.T, n int) *arena.Arena[int] {
	t.Helper()
	a := arena.New[int]()
	for i := 1; i <= n; i++ {
		takes(t, a, 100*i, int32(i))
	}
	counts(t, a, n, n)
	return a
}

// numbers that are no slot of an arena with at most a million slots
func wrong() []int32 {
	return []int32{0, -1, -2, -1000, math.MinInt32, math.MinInt32 + 1, math.MaxInt32, math.MaxInt32 - 1, 1 << 30}
}

// shaken are numbers from all over, the same ones for the same seed.
func shaken(seed uint64) func(int) int {
	return func(n int) int {
		seed = seed*6364136223846793005 + 1442695040888963407
		return int((seed >> 33) % uint64(n))
	}
}

// P5.1

func TestNewHasNoSlots(t *testing.T) {
	a := arena.New[int]()
	if a == nil {
		t.Fatal("New = nil")
	}
	counts(t, a, 0, 0)
	for _, i := range append(wrong(), 1, 2, 3) {
		hasNone(t, a, i)
		frees(t, a, i, false)
	}
	counts(t, a, 0, 0)
	takes(t, a, 7, 1)
	has(t, a, 1, 7)
}

func TestTakeIsASlotMoreIfNoneIsFree(t *testing.T) {
	a := arena.New[int]()
	for i := 1; i <= 3000; i++ {
		takes(t, a, 3*i, int32(i))
		counts(t, a, i, i)
		has(t, a, int32(i), 3*i)
	}
	for i := 1; i <= 3000; i++ {
		has(t, a, int32(i), 3*i)
	}
}

func TestTakeIsTheSlotFreedLast(t *testing.T) {
	for _, freed := range [][]int32{
		{3}, {1}, {6}, {1, 2}, {2, 1}, {6, 1}, {1, 6}, {2, 5, 3}, {5, 2, 3}, {4, 6, 1, 3},
		{1, 2, 3, 4, 5, 6}, {6, 5, 4, 3, 2, 1}, {3, 1, 6, 2, 5, 4},
	} {
		a := filled(t, 6)
		for _, i := range freed {
			frees(t, a, i, true)
		}
		for n, i := range slices.Backward(freed) {
			counts(t, a, 6-n-1, 6)
			takes(t, a, int(-i), i)
			has(t, a, i, int(-i))
		}
		counts(t, a, 6, 6)
		takes(t, a, 70, 7)
		takes(t, a, 80, 8)
		counts(t, a, 8, 8)
	}
}

// The order is that of the freeing, of those that are still free: not of the numbers, and not of what was taken again.
func TestFreedAndTakenInTurns(t *testing.T) {
	a := filled(t, 5)
	frees(t, a, 4, true)
	frees(t, a, 2, true)
	takes(t, a, 1, 2)
	frees(t, a, 5, true)
	frees(t, a, 1, true)
	takes(t, a, 2, 1)
	takes(t, a, 3, 5)
	frees(t, a, 2, true)
	frees(t, a, 3, true)
	takes(t, a, 4, 3)
	takes(t, a, 5, 2)
	takes(t, a, 6, 4)
	takes(t, a, 7, 6)
	for i, x := range []int{2, 5, 4, 6, 3, 7} {
		has(t, a, int32(i+1), x)
	}
}

func TestASlotFreedAgainIsTheLastOne(t *testing.T) {
	a := filled(t, 3)
	frees(t, a, 1, true)
	frees(t, a, 3, true)
	takes(t, a, 0, 3)
	takes(t, a, 0, 1)
	frees(t, a, 3, true)
	frees(t, a, 1, true)
	takes(t, a, 0, 1)
	takes(t, a, 0, 3)
	takes(t, a, 0, 4)
}

func TestAllSlotsFreedAndTakenAgain(t *testing.T) {
	const n = 200
	a := filled(t, n)
	next := shaken(5)
	order := make([]int32, n)
	for i := range order {
		order[i] = int32(i + 1)
	}
	for round := range 20 {
		for i := range order {
			j := next(n)
			order[i], order[j] = order[j], order[i]
		}
		for i, s := range order {
			frees(t, a, s, true)
			counts(t, a, n-i-1, n)
		}
		for i := range int32(n) {
			hasNone(t, a, i+1)
		}
		for _, s := range slices.Backward(order) {
			takes(t, a, round*1000+int(s), s)
		}
		counts(t, a, n, n)
		for i := range int32(n) {
			has(t, a, i+1, round*1000+int(i)+1)
		}
	}
	takes(t, a, 0, n+1)
}

func TestFreeOfWhatIsNotTaken(t *testing.T) {
	a := filled(t, 4)
	frees(t, a, 2, true)
	for range 3 {
		for _, i := range append(wrong(), 2, 5, 6, 100) {
			frees(t, a, i, false)
			counts(t, a, 3, 4)
		}
	}
	for _, i := range []int32{1, 3, 4} {
		has(t, a, i, 100*int(i))
	}
	// What was refused is not among the free ones.
	takes(t, a, 1, 2)
	takes(t, a, 2, 5)
	takes(t, a, 3, 6)
}

func TestFreedTwiceIsTakenOnce(t *testing.T) {
	a := filled(t, 2)
	frees(t, a, 1, true)
	frees(t, a, 2, true)
	frees(t, a, 1, false)
	frees(t, a, 2, false)
	counts(t, a, 0, 2)
	takes(t, a, 5, 2)
	frees(t, a, 1, false)
	takes(t, a, 6, 1)
	takes(t, a, 7, 3)
	has(t, a, 2, 5)
	has(t, a, 1, 6)
	frees(t, a, 1, true)
	frees(t, a, 1, false)
}

// A number whose low bits are those of a slot is still none.
func TestNumbersThatLookLikeSlots(t *testing.T) {
	a := filled(t, 200)
	for _, i := range []int32{1 + 1<<8, 1 + 1<<16, 1 + 1<<24, math.MinInt32 + 1, -1, -200} {
		hasNone(t, a, i)
		frees(t, a, i, false)
	}
	counts(t, a, 200, 200)
}

// P5.2

func TestAtIsReadAndWritten(t *testing.T) {
	a := filled(t, 50)
	for i := int32(1); i <= 50; i++ {
		*a.At(i) += int(i)
	}
	for i := int32(1); i <= 50; i++ {
		has(t, a, i, 101*int(i))
	}
	*a.At(7) = 0
	has(t, a, 7, 0)
	has(t, a, 6, 606)
	has(t, a, 8, 808)
	counts(t, a, 50, 50)
	// What was written goes along when there are slots more.
	for i := int32(51); i <= 500; i++ {
		takes(t, a, 0, i)
	}
	has(t, a, 7, 0)
	has(t, a, 50, 5050)
}

// At is one place till there is a slot more, whatever else is freed and taken.
func TestAtIsOnePlace(t *testing.T) {
	a := filled(t, 20)
	x, y := a.At(3), a.At(4)
	if x != a.At(3) || x == y {
		t.Fatal("At(3) is elsewhere, or where At(4) is")
	}
	for i := int32(5); i <= 20; i++ {
		frees(t, a, i, true)
	}
	for i := int32(20); i >= 5; i-- {
		takes(t, a, 9, i)
	}
	*x = 33
	has(t, a, 3, 33)
	*a.At(3) = 34
	if *x != 34 || *y != 400 {
		t.Errorf("%d, %d: want 34, 400", *x, *y)
	}
	// The slot's own thing, too, may come and go.
	frees(t, a, 3, true)
	takes(t, a, 35, 3)
	if *x != 35 || x != a.At(3) {
		t.Errorf("%d where the slot 3 was: want 35", *x)
	}
}

func TestAtOfASlotTakenAgain(t *testing.T) {
	a := arena.New[string]()
	takes(t, a, "a", 1)
	takes(t, a, "b", 2)
	*a.At(2) = "written"
	frees(t, a, 2, true)
	hasNone(t, a, 2)
	has(t, a, 1, "a")
	takes(t, a, "c", 2)
	has(t, a, 2, "c")
	frees(t, a, 2, true)
	takes(t, a, "", 2)
	has(t, a, 2, "")
}

// What is written into a freed slot by way of what At told earlier does not turn what it has when it is taken again.
func TestWrittenWhileFree(t *testing.T) {
	a := filled(t, 2)
	x := a.At(1)
	frees(t, a, 1, true)
	*x = 5
	hasNone(t, a, 1)
	frees(t, a, 1, false)
	counts(t, a, 1, 2)
	takes(t, a, 6, 1)
	has(t, a, 1, 6)
	has(t, a, 2, 200)
}

func TestAtOfWhatIsNotTaken(t *testing.T) {
	a := filled(t, 4)
	frees(t, a, 4, true)
	frees(t, a, 1, true)
	for _, i := range append(wrong(), 1, 4, 5, 6, 8, 16) {
		hasNone(t, a, i)
	}
	has(t, a, 2, 200)
	has(t, a, 3, 300)
	counts(t, a, 2, 4)
}

func TestSlotsWhileSlotsAreFreedAndTaken(t *testing.T) {
	a := filled(t, 3)
	for _, step := range []struct {
		free         int32
		taken, slots int
	}{{2, 2, 3}, {3, 1, 3}, {0, 2, 3}, {0, 3, 3}, {0, 4, 4}, {1, 3, 4}, {4, 2, 4}, {2, 1, 4}, {3, 0, 4}, {0, 1, 4}, {0, 2, 4}, {0, 3, 4}, {0, 4, 4}, {0, 5, 5}} {
		if step.free > 0 {
			frees(t, a, step.free, true)
		} else {
			a.Take(0)
		}
		counts(t, a, step.taken, step.slots)
	}
}

func TestNilArena(t *testing.T) {
	var a *arena.Arena[int]
	for range 3 {
		takes(t, a, 5, 0)
		for _, i := range append(wrong(), 1, 2) {
			frees(t, a, i, false)
			hasNone(t, a, i)
		}
		counts(t, a, 0, 0)
	}
	var none *arena.Arena[struct{}]
	takes(t, none, struct{}{}, 0)
	hasNone(t, none, 0)
	hasNone(t, none, 1)
	counts(t, none, 0, 0)
}

func TestArenaThatNewDidNotMake(t *testing.T) {
	var held struct{ a arena.Arena[string] }
	for _, a := range []*arena.Arena[string]{new(arena.Arena[string]), {}, &held.a} {
		counts(t, a, 0, 0)
		for _, i := range append(wrong(), 1, 2) {
			frees(t, a, i, false)
			hasNone(t, a, i)
		}
		takes(t, a, "a", 1)
		takes(t, a, "b", 2)
		takes(t, a, "c", 3)
		frees(t, a, 1, true)
		frees(t, a, 2, true)
		counts(t, a, 1, 3)
		takes(t, a, "d", 2)
		takes(t, a, "e", 1)
		takes(t, a, "f", 4)
		for i, x := range []string{"e", "d", "c", "f"} {
			has(t, a, int32(i+1), x)
		}
	}
}

// comesAndGoes does the same with things of any type; no two of them that stand side by side are the same, if the type has two.
func comesAndGoes[T comparable](t *testing.T, what string, l [4]T) {
	t.Run(what, func(t *testing.T) {
		a := arena.New[T]()
		for i, x := range l {
			takes(t, a, x, int32(i+1))
		}
		for i, x := range l {
			has(t, a, int32(i+1), x)
		}
		counts(t, a, 4, 4)
		frees(t, a, 3, true)
		frees(t, a, 1, true)
		frees(t, a, 1, false)
		hasNone(t, a, 1)
		hasNone(t, a, 3)
		hasNone(t, a, 5)
		hasNone(t, a, 0)
		has(t, a, 2, l[1])
		counts(t, a, 2, 4)
		takes(t, a, l[3], 1)
		takes(t, a, l[1], 3)
		takes(t, a, l[0], 5)
		*a.At(2) = l[2]
		for i, x := range []T{l[3], l[2], l[1], l[3], l[0]} {
			has(t, a, int32(i+1), x)
		}
		counts(t, a, 5, 5)
	})
}

type pair struct {
	name string
	n    [3]int32
}

func TestThingsOfSeveralTypes(t *testing.T) {
	comesAndGoes(t, "bool", [4]bool{true, false, true, false})
	comesAndGoes(t, "byte", [4]uint8{0, 255, 1, 128})
	comesAndGoes(t, "int64", [4]int64{math.MinInt64, math.MaxInt64, 0, -1})
	comesAndGoes(t, "float64", [4]float64{0, 1.5, math.Inf(1), -2})
	comesAndGoes(t, "string", [4]string{"", "a", "long enough to be a text", "\x00\xff"})
	comesAndGoes(t, "array", [4][3]int{{}, {1, 2, 3}, {3, 2, 1}, {0, 0, 1}})
	comesAndGoes(t, "great array", [4][1000]int{{1}, {999: 1}, {}, {500: 7}})
	comesAndGoes(t, "struct", [4]pair{{}, {"a", [3]int32{1}}, {"b", [3]int32{1}}, {"a", [3]int32{2}}})
	comesAndGoes(t, "pointer", [4]*int{new(int), nil, new(int), new(int)})
	comesAndGoes(t, "interface", [4]any{nil, 1, "a", pair{name: "a"}})
	comesAndGoes(t, "arena", [4]*arena.Arena[int]{arena.New[int](), nil, arena.New[int](), nil})
	comesAndGoes(t, "channel", [4]chan int{make(chan int), nil, make(chan int), nil})
}

// Things without room are in slots all the same.
func TestThingsWithoutRoom(t *testing.T) {
	comesAndGoes(t, "empty struct", [4]struct{}{})
	comesAndGoes(t, "array of none", [4][0]int{})
	comesAndGoes(t, "struct of such", [4]struct {
		a struct{}
		b [0]string
	}{})
}

func TestThingsThatAreNotHeldAgainstEachOther(t *testing.T) {
	lists := arena.New[[]int]()
	takes(t, lists, []int{1, 2}, 1)
	takes(t, lists, nil, 2)
	*lists.At(2) = append(*lists.At(2), 5)
	(*lists.At(1))[0] = 9
	if !slices.Equal(*lists.At(1), []int{9, 2}) || !slices.Equal(*lists.At(2), []int{5}) {
		t.Errorf("%v, %v", *lists.At(1), *lists.At(2))
	}
	calls := arena.New[func() int]()
	takes(t, calls, func() int { return 3 }, 1)
	takes(t, calls, nil, 2)
	if (*calls.At(1))() != 3 || *calls.At(2) != nil || calls.At(3) != nil {
		t.Error("functions")
	}
	maps := arena.New[map[string]int]()
	takes(t, maps, map[string]int{"a": 1}, 1)
	frees(t, maps, 1, true)
	takes(t, maps, nil, 1)
	if maps.At(1) == nil || *maps.At(1) != nil {
		t.Error("a nil map is a thing like others")
	}
}

// A thing that is nil is still a thing, and its slot is taken.
func TestNilThings(t *testing.T) {
	a := arena.New[*int]()
	takes(t, a, nil, 1)
	takes(t, a, nil, 2)
	counts(t, a, 2, 2)
	has(t, a, 1, nil)
	frees(t, a, 1, true)
	hasNone(t, a, 1)
	takes(t, a, nil, 1)
	has(t, a, 1, nil)
	frees(t, a, 2, true)
}

// P5.3

func TestNoMoreSlotsThanTakenAtOneTime(t *testing.T) {
	for seed := range uint64(20) {
		next := shaken(seed)
		a := arena.New[int]()
		var held []int32
		most := 0
		for step := range 2000 {
			if len(held) == 0 || next(2) == 0 && len(held) < 5+step/100 {
				held = append(held, a.Take(step))
				most = max(most, len(held))
			} else {
				j := next(len(held))
				frees(t, a, held[j], true)
				held = slices.Delete(held, j, j+1)
			}
			if a.Slots() != most || a.Len() != len(held) {
				t.Fatalf("Len, Slots = %d, %d where %d are taken, %d were at most", a.Len(), a.Slots(), len(held), most)
			}
		}
	}
}

func TestOneSlotTakenManyTimes(t *testing.T) {
	a := arena.New[int]()
	for i := range 10000 {
		takes(t, a, i, 1)
		has(t, a, 1, i)
		frees(t, a, 1, true)
	}
	counts(t, a, 0, 1)
}

func TestWhatIsTakenKeepsItsThing(t *testing.T) {
	a := filled(t, 10)
	next := shaken(9)
	var others []int32
	for step := range 5000 {
		if next(3) > 0 || len(others) == 0 {
			others = append(others, a.Take(-step))
		} else {
			j := next(len(others))
			frees(t, a, others[j], true)
			others[j] = others[len(others)-1]
			others = others[:len(others)-1]
		}
	}
	for i := int32(1); i <= 10; i++ {
		has(t, a, i, 100*int(i))
	}
}

func TestHeldAgainstAPlainList(t *testing.T) {
	for seed := range uint64(60) {
		next := shaken(seed * 77)
		a, p := arena.New[int](), &plain{}
		lean := 1 + int(seed%9)
		for step := range 400 {
			around := int32(next(len(p.taken)+4) - 1)
			switch n := next(12); {
			case n < lean:
				takes(t, a, step, p.take(step))
			case n < 10:
				frees(t, a, around, p.free(around))
			case p.has(around):
				*a.At(around), p.things[around-1] = -step, -step
			default:
				i := wrong()[next(len(wrong()))]
				frees(t, a, i, p.free(i))
			}
			like(t, a, p)
		}
	}
}

// The rules

func TestArenasKnowNothingOfOneAnother(t *testing.T) {
	a, b, c := filled(t, 3), arena.New[int](), filled(t, 3)
	frees(t, a, 2, true)
	counts(t, b, 0, 0)
	hasNone(t, b, 2)
	takes(t, b, 1, 1)
	takes(t, b, 2, 2)
	frees(t, b, 1, true)
	*b.At(2) = 5
	frees(t, a, 1, true)
	takes(t, a, 7, 1)
	*a.At(1) = 8
	takes(t, b, 3, 1)
	takes(t, b, 4, 3)
	takes(t, a, 9, 2)
	for i := int32(1); i <= 3; i++ {
		has(t, c, i, 100*int(i))
	}
	for i, x := range []int{8, 9, 300} {
		has(t, a, int32(i+1), x)
	}
	for i, x := range []int{3, 5, 4} {
		has(t, b, int32(i+1), x)
	}
	counts(t, a, 3, 3)
	counts(t, b, 3, 3)
	counts(t, c, 3, 3)
	takes(t, c, 0, 4)
	counts(t, a, 3, 3)
}

// The same calls come to the same answers, whatever is done to another arena between them.
func TestArenasInTurns(t *testing.T) {
	next := shaken(3)
	as, ps := []*arena.Arena[int]{}, []*plain{}
	for range 4 {
		as, ps = append(as, arena.New[int]()), append(ps, &plain{})
	}
	for step := range 3000 {
		a, p := as[step%4], ps[step%4]
		if i := int32(next(len(p.taken)+2) + 1); next(2) == 0 {
			frees(t, a, i, p.free(i))
		} else {
			takes(t, a, step, p.take(step))
		}
		if step%50 == 0 {
			for k := range as {
				like(t, as[k], ps[k])
			}
		}
	}
	for k := range as {
		like(t, as[k], ps[k])
	}
}

// A thing is taken as it is when it is handed in: what becomes of the variable is another matter.
func TestTakeTakesAThingAsItIs(t *testing.T) {
	x := pair{name: "a", n: [3]int32{1, 2, 3}}
	a := arena.New[pair]()
	takes(t, a, x, 1)
	x.name, x.n[0] = "b", 9
	has(t, a, 1, pair{name: "a", n: [3]int32{1, 2, 3}})
	takes(t, a, *a.At(1), 2)
	a.At(1).n[1] = 7
	has(t, a, 2, pair{name: "a", n: [3]int32{1, 2, 3}})
	has(t, a, 1, pair{name: "a", n: [3]int32{1, 7, 3}})
}

// A free slot keeps nothing of what it had (the language's rule 8).
func TestAFreeSlotKeepsNothing(t *testing.T) {
	a := arena.New[[]int]()
	takes(t, a, []int{1, 2, 3}, 1)
	x := a.At(1)
	frees(t, a, 1, true)
	if *x != nil {
		t.Errorf("the free slot still has %v", *x)
	}
}

func TestExample(t *testing.T) {
	a := arena.New[string]()
	takes(t, a, "a", 1)
	takes(t, a, "b", 2)
	frees(t, a, 1, true)
	frees(t, a, 1, false)
	hasNone(t, a, 1)
	takes(t, a, "c", 1)
	has(t, a, 1, "c")
	counts(t, a, 2, 2)
}
