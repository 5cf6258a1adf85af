package treap_test

import (
	"math"
	"slices"
	"testing"

	"tidewalk/arena"
	"tidewalk/draws"
	"tidewalk/treap"
)

// P6.1

func TestNewHasNoItems(t *testing.T) {
	for _, d := range []*draws.Draws{nil, new(draws.Draws), drawing(t, []uint32{5, 6})} {
		f := treap.New(d)
		if f == nil {
			t.Fatal("New = nil")
		}
		like(t, f, &plain{})
		makes(t, f, worth(3), 1)
		gets(t, f, 1, worth(3), true)
	}
}

// Each item has a priority that was drawn for it, and nothing else draws.
func TestMakeDrawsOnce(t *testing.T) {
	d := drawing(t, []uint32{7, 8, 9})
	d.Next()
	f := treap.New(d)
	for i := range 20 {
		if d.Len() != i+1 {
			t.Fatalf("%d drawn ahead of the item %d", d.Len(), i+1)
		}
		f.Make(worth(i))
	}
	for i := int32(2); i <= 20; i++ {
		f.Join(1, i)
	}
	f.Set(3, worth(1))
	f.Cut(20)
	f.Free(20)
	f.Total(1)
	if d.Len() != 21 {
		t.Errorf("%d drawn for 20 items", d.Len()-1)
	}
	f.Make(worth(1))
	if d.Len() != 22 {
		t.Errorf("%d drawn for 21 items", d.Len()-1)
	}
}

func TestMakeIsAlone(t *testing.T) {
	f, p := treap.New(nil), &plain{}
	for n := range 12 {
		makes(t, f, worth(n), p.make(worth(n)))
		like(t, f, p)
	}
	walks(t, f, 5, 5)
	stands(t, f, 5, 0, 1)
	same(t, f, 5, 6, false)
	leads(t, f, 5, 5, 0)
	totals(t, f, 5, worth(4))
}

// Two items with one value are two.
func TestMakeOfOneValueTwice(t *testing.T) {
	f := treap.New(nil)
	makes(t, f, worth(1), 1)
	makes(t, f, worth(1), 2)
	same(t, f, 1, 2, false)
	sets(t, f, 1, worth(5), true)
	gets(t, f, 2, worth(1), true)
	gets(t, f, 1, worth(5), true)
}

func TestNumbersAreAnArenas(t *testing.T) {
	next := shaken(11)
	f, a := treap.New(nil), arena.New[int]()
	for range 3000 {
		if i := int32(next(a.Slots()+2) + 1); next(5) < 2 {
			frees(t, f, i, a.Free(i))
		} else {
			makes(t, f, worth(int(i)), a.Take(0))
		}
		has(t, f, a.Len())
	}
}

func TestNumbersAreGivenAgain(t *testing.T) {
	f := row(t, nil, 6)
	for i := int32(2); i <= 6; i++ {
		cuts(t, f, i, true)
	}
	for _, i := range []int32{3, 5, 2} {
		frees(t, f, i, true)
	}
	has(t, f, 3)
	for _, i := range []int32{2, 5, 3, 7, 8} {
		makes(t, f, worth(int(10+i)), i)
		walks(t, f, i, i)
		gets(t, f, i, worth(int(10+i)), true)
	}
	has(t, f, 8)
	joins(t, f, 3, 2, true)
	walks(t, f, 2, 3, 2)
	totals(t, f, 3, treap.Value{Count: 25, Sum: 2500, Least: 987, Mark: 13})
}

// What is made again knows nothing of what had its number: not its value, nor its neighbours.
func TestMadeAgainIsNew(t *testing.T) {
	f := row(t, nil, 3)
	cuts(t, f, 2, true)
	cuts(t, f, 3, true)
	frees(t, f, 2, true)
	joins(t, f, 1, 3, true)
	gets(t, f, 2, treap.Value{}, false)
	makes(t, f, treap.Value{}, 2)
	gets(t, f, 2, treap.Value{}, true)
	totals(t, f, 2, treap.Value{})
	walks(t, f, 2, 2)
	walks(t, f, 1, 1, 3)
	stands(t, f, 3, 1, 2)
}

func TestFreeOfWhatDoesNotStandAlone(t *testing.T) {
	for what, l := range drawLists(t) {
		f, p := row(t, l, 7), rowed(7)
		for i := int32(1); i <= 7; i++ {
			frees(t, f, i, false)
		}
		like(t, f, p)
		for i := int32(7); i > 1; i-- {
			frees(t, f, i, false)
			cuts(t, f, i, p.cut(i))
			frees(t, f, i, p.free(i))
			like(t, f, p)
		}
		frees(t, f, 1, true)
		has(t, f, 0)
		for i := int32(1); i <= 7; i++ {
			makes(t, f, worth(1), i)
		}
		if t.Failed() {
			t.Fatal(what)
		}
	}
}

// rowed is the plain one of row.
func rowed(n int) *plain {
	p := &plain{}
	for i := 1; i <= n; i++ {
		p.make(worth(i))
		p.join(1, int32(i))
	}
	return p
}

func TestFreeOfNone(t *testing.T) {
	f, p := row(t, nil, 4), rowed(4)
	cuts(t, f, 4, p.cut(4))
	frees(t, f, 4, p.free(4))
	for range 3 {
		for _, i := range append(wrong(), 4, 5, 6, 1+1<<8, 1+1<<16, 1+1<<24) {
			frees(t, f, i, false)
		}
		like(t, f, p)
	}
	makes(t, f, worth(9), p.make(worth(9)))
	makes(t, f, worth(8), p.make(worth(8)))
	like(t, f, p)
}

func TestGetIsWhatWasGiven(t *testing.T) {
	f := treap.New(nil)
	l := []treap.Value{
		{}, {Count: 1}, {Sum: 2}, {Least: 3}, {Mark: 4}, worth(7),
		{Count: math.MaxInt, Sum: math.MaxInt, Least: math.MaxInt, Mark: 255},
		{Count: math.MinInt, Sum: math.MinInt, Least: math.MinInt, Mark: 128},
		{Count: -1, Sum: -1, Least: -1, Mark: 1},
		{Least: treap.MaxLeast}, {Least: treap.MaxLeast + 1}, {Least: treap.MaxLeast - 1},
	}
	for k, x := range l {
		makes(t, f, x, int32(k+1))
		joins(t, f, 1, int32(k+1), k > 0)
	}
	for k, x := range l {
		gets(t, f, int32(k+1), x, true)
	}
	for k := range l {
		sets(t, f, int32(k+1), l[len(l)-1-k], true)
		gets(t, f, int32(k+1), l[len(l)-1-k], true)
	}
	for k := range l {
		gets(t, f, int32(k+1), l[len(l)-1-k], true)
	}
}

func TestSetChangesOneValueAlone(t *testing.T) {
	for _, l := range drawLists(t) {
		f, p := row(t, l, 15), rowed(15)
		cuts(t, f, 9, p.cut(9))
		for i := int32(1); i <= 15; i++ {
			x := treap.Value{Count: int(i * i), Sum: -int(i), Least: int(50 * i), Mark: 1 << (i % 8)}
			sets(t, f, i, x, p.set(i, x))
			like(t, f, p)
		}
		sets(t, f, 4, treap.Value{}, p.set(4, treap.Value{}))
		sets(t, f, 4, treap.Value{}, p.set(4, treap.Value{}))
		like(t, f, p)
	}
}

func TestSetOfNone(t *testing.T) {
	f, p := row(t, nil, 5), rowed(5)
	cuts(t, f, 5, p.cut(5))
	frees(t, f, 5, p.free(5))
	for _, i := range append(wrong(), 5, 6, 7, 1+1<<8, 1+1<<16) {
		sets(t, f, i, worth(77), false)
	}
	like(t, f, p)
	makes(t, f, worth(1), p.make(worth(1)))
	like(t, f, p)
}

// P6.2

// several has the sequences 1 2 3 4 5, 6, and 8 7; 9 was freed.
func several(t *testing.T, l []uint32) *treap.Forest {
	t.Helper()
	f := row(t, l, 9)
	for _, i := range []int32{6, 7, 8, 9} {
		cuts(t, f, i, true)
	}
	frees(t, f, 9, true)
	joins(t, f, 8, 7, true)
	return f
}

func TestSeveralSequences(t *testing.T) {
	for _, draw := range drawLists(t) {
		f := several(t, draw)
		for _, l := range [][]int32{{1, 2, 3, 4, 5}, {6}, {8, 7}} {
			for place, i := range l {
				stands(t, f, i, place, len(l))
				walks(t, f, i, l...)
				leads(t, f, i, l[0], append(l[1:], 0)[place])
				for j := int32(1); j <= 9; j++ {
					same(t, f, i, j, slices.Contains(l, j))
				}
			}
		}
		for _, i := range []int32{1, 2, 3, 4, 5} {
			totals(t, f, i, treap.Value{Count: 15, Sum: 1500, Least: 995, Mark: 7})
		}
		totals(t, f, 6, worth(6))
		totals(t, f, 7, treap.Value{Count: 15, Sum: 1500, Least: 992, Mark: 15})
		totals(t, f, 8, treap.Value{Count: 15, Sum: 1500, Least: 992, Mark: 15})
		has(t, f, 8)
	}
}

func TestWhatIsToldOfNone(t *testing.T) {
	f := several(t, nil)
	for _, i := range append(wrong(), 9, 10, 11, 1+1<<8, 1+1<<16, 1+1<<24) {
		gets(t, f, i, treap.Value{}, false)
		stands(t, f, i, -1, 0)
		totals(t, f, i, none())
		leads(t, f, i, 0, 0)
		walks(t, f, i)
		for _, mask := range masks() {
			finds(t, f, i, mask, 0)
		}
		for _, j := range append(wrong(), i, 1, 6, 9) {
			same(t, f, i, j, false)
			same(t, f, j, i, false)
		}
	}
}

func TestTotalOfCountAndSum(t *testing.T) {
	f := treap.New(nil)
	for k, x := range []treap.Value{{Count: 5}, {Sum: 7}, {Count: -9, Sum: -11}, {}, {Count: 1 << 40, Sum: 1 << 50}} {
		makes(t, f, x, int32(k+1))
		joins(t, f, 1, int32(k+1), k > 0)
	}
	totals(t, f, 3, treap.Value{Count: 1<<40 - 4, Sum: 1<<50 - 4})
	cuts(t, f, 5, true)
	totals(t, f, 1, treap.Value{Count: -4, Sum: -4})
	totals(t, f, 5, treap.Value{Count: 1 << 40, Sum: 1 << 50})
}

// Beyond the greatest number sums wrap round, whatever the order in which they are reckoned.
func TestTotalWrapsRound(t *testing.T) {
	for _, draw := range drawLists(t) {
		f := treap.New(drawing(t, draw))
		for i := int32(1); i <= 3; i++ {
			makes(t, f, treap.Value{Count: math.MaxInt, Sum: math.MinInt}, i)
			joins(t, f, 1, i, i > 1)
		}
		totals(t, f, 2, treap.Value{Count: math.MaxInt - 2, Sum: math.MinInt})
	}
}

func TestTotalOfLeast(t *testing.T) {
	if treap.MaxLeast != 1<<62 {
		t.Fatalf("MaxLeast is %d", treap.MaxLeast)
	}
	const most = 1 << 62
	for _, c := range []struct {
		least []int
		want  int
	}{
		{[]int{most}, most}, {[]int{most + 1}, most}, {[]int{math.MaxInt}, most}, {[]int{most - 1}, most - 1},
		{[]int{0}, 0}, {[]int{-1}, -1}, {[]int{math.MinInt}, math.MinInt},
		{[]int{most, most}, most}, {[]int{math.MaxInt, most + 1}, most}, {[]int{math.MaxInt, most - 1}, most - 1},
		{[]int{most - 1, most, most + 1}, most - 1}, {[]int{most + 1, most - 1, most}, most - 1},
		{[]int{5, 3, 4}, 3}, {[]int{3, 4, 5}, 3}, {[]int{5, 4, 3}, 3}, {[]int{3, 3}, 3},
		{[]int{1, 0, -7, 2}, -7}, {[]int{math.MaxInt, math.MinInt, 0}, math.MinInt},
	} {
		for _, draw := range drawLists(t) {
			f := treap.New(drawing(t, draw))
			for k, n := range c.least {
				makes(t, f, treap.Value{Least: n}, int32(k+1))
				joins(t, f, 1, int32(k+1), k > 0)
			}
			for k, n := range c.least {
				totals(t, f, int32(k+1), treap.Value{Least: c.want})
				gets(t, f, int32(k+1), treap.Value{Least: n}, true)
			}
		}
	}
}

func TestLeastRisesAgain(t *testing.T) {
	f := row(t, nil, 8)
	totals(t, f, 1, treap.Value{Count: 36, Sum: 3600, Least: 992, Mark: 15})
	sets(t, f, 8, treap.Value{Least: 2000}, true)
	totals(t, f, 1, treap.Value{Count: 28, Sum: 2800, Least: 993, Mark: 7})
	cuts(t, f, 7, true)
	totals(t, f, 1, treap.Value{Count: 21, Sum: 2100, Least: 994, Mark: 7})
	totals(t, f, 8, treap.Value{Count: 7, Sum: 700, Least: 993, Mark: 7})
}

func TestMarksOfATotal(t *testing.T) {
	f := treap.New(nil)
	for i := int32(1); i <= 8; i++ {
		makes(t, f, treap.Value{Mark: 1 << (i - 1)}, i)
		joins(t, f, 1, i, i > 1)
		totals(t, f, i, treap.Value{Mark: uint8(1<<i - 1)})
	}
	for i := int32(1); i <= 8; i++ {
		finds(t, f, 4, 1<<(i-1), i)
		finds(t, f, i, 0xff, 1)
		finds(t, f, i, 0xff<<(i-1), i)
		finds(t, f, i, 0, 0)
	}
	sets(t, f, 3, treap.Value{}, true)
	totals(t, f, 1, treap.Value{Mark: 0xfb})
	finds(t, f, 1, 4, 0)
	finds(t, f, 1, 12, 4)
}

// The first one is told: not the nearest to i, nor one behind i alone.
func TestFindIsTheFirst(t *testing.T) {
	for _, draw := range drawLists(t) {
		f := treap.New(drawing(t, draw))
		for i := int32(1); i <= 20; i++ {
			makes(t, f, treap.Value{}, i)
			joins(t, f, i, 1, i > 1) // from the front: 20 19 .. 1
		}
		for _, mask := range masks() {
			finds(t, f, 7, mask, 0)
		}
		for _, i := range []int32{3, 1, 9, 6, 20, 15} {
			sets(t, f, i, treap.Value{Mark: 0x50}, true)
		}
		for i := int32(1); i <= 20; i++ {
			finds(t, f, i, 0x10, 20)
			finds(t, f, i, 0xff, 20)
			finds(t, f, i, 0xaf, 0)
		}
		for _, c := range []struct{ set, first int32 }{{20, 15}, {9, 15}, {15, 6}, {6, 3}, {3, 1}, {1, 0}} {
			sets(t, f, c.set, treap.Value{}, true)
			for i := int32(1); i <= 20; i++ {
				finds(t, f, i, 0x40, c.first)
			}
		}
	}
}

// What is marked in another sequence is not found.
func TestFindInOneSequence(t *testing.T) {
	f := several(t, nil)
	finds(t, f, 4, 8, 0)
	finds(t, f, 6, 1, 0)
	finds(t, f, 6, 6, 6)
	finds(t, f, 7, 4, 7)
	finds(t, f, 7, 8, 8)
	joins(t, f, 6, 7, true)
	finds(t, f, 7, 4, 6)
	finds(t, f, 6, 8, 8)
	finds(t, f, 6, 1, 7)
	cuts(t, f, 8, true)
	finds(t, f, 6, 8, 0)
}

func TestWalkThatIsLeft(t *testing.T) {
	f := row(t, nil, 9)
	for many := 1; many <= 9; many++ {
		var l []int32
		for k := range f.Walk(4) {
			l = append(l, k)
			if len(l) == many {
				break
			}
		}
		if !slices.Equal(l, upTo(1, int32(many))) {
			t.Errorf("left behind %d: %v", many, l)
		}
	}
	walks(t, f, 4, upTo(1, 9)...)
}

// What is not gone on with is not told anything any more.
func TestWalkTellsNothingWhenItIsLeft(t *testing.T) {
	f := row(t, nil, 5)
	told := 0
	f.Walk(1)(func(int32) bool { told++; return told < 3 })
	if told != 3 {
		t.Errorf("%d told: want 3", told)
	}
}

func TestWalkIsAsTheSequenceStandsWhenItBegins(t *testing.T) {
	for what, change := range map[string]func(f *treap.Forest, k int32){
		"cut behind":    func(f *treap.Forest, k int32) { f.Cut(k + 1) },
		"cut ahead":     func(f *treap.Forest, k int32) { f.Cut(k) },
		"cut far":       func(f *treap.Forest, k int32) { f.Cut(7) },
		"join behind":   func(f *treap.Forest, k int32) { f.Join(k, f.Make(treap.Value{})) },
		"join in front": func(f *treap.Forest, k int32) { f.Join(f.Make(treap.Value{}), k) },
		"turn round":    func(f *treap.Forest, k int32) { f.Cut(k); f.Join(k, 1) },
		"free":          func(f *treap.Forest, k int32) { f.Cut(k); f.Cut(k + 1); f.Free(k) },
		"free the next": func(f *treap.Forest, k int32) { f.Cut(k + 1); f.Cut(k + 2); f.Free(k + 1) },
		"free and make": func(f *treap.Forest, k int32) { f.Cut(k); f.Cut(k + 1); f.Free(k); f.Join(1, f.Make(treap.Value{})) },
		"set":           func(f *treap.Forest, k int32) { f.Set(k, treap.Value{Mark: 1}) },
		"walk":          func(f *treap.Forest, k int32) { f.Walk(k)(func(int32) bool { return true }) },
	} {
		for _, draw := range drawLists(t) {
			f := row(t, draw, 9)
			var l []int32
			for k := range f.Walk(5) {
				l = append(l, k)
				change(f, k)
			}
			if !slices.Equal(l, upTo(1, 9)) {
				t.Fatalf("%s: %v", what, l)
			}
		}
	}
}

func TestWalkThatBeginsAgain(t *testing.T) {
	f := row(t, nil, 6)
	w := f.Walk(2)
	if l := slices.Collect(w); !slices.Equal(l, upTo(1, 6)) {
		t.Fatal(l)
	}
	cuts(t, f, 5, true)
	if l := slices.Collect(w); !slices.Equal(l, upTo(1, 4)) {
		t.Fatal(l)
	}
	joins(t, f, 6, 1, true)
	if l := slices.Collect(w); !slices.Equal(l, []int32{5, 6, 1, 2, 3, 4}) {
		t.Fatal(l)
	}
	cuts(t, f, 2, true)
	cuts(t, f, 3, true)
	frees(t, f, 2, true)
	if l := slices.Collect(w); len(l) > 0 {
		t.Fatal(l)
	}
}

func TestWalksInOneAnother(t *testing.T) {
	f := several(t, nil)
	var l [][2]int32
	for i := range f.Walk(7) {
		for j := range f.Walk(8) {
			l = append(l, [2]int32{i, j})
		}
	}
	if !slices.Equal(l, [][2]int32{{8, 8}, {8, 7}, {7, 8}, {7, 7}}) {
		t.Error(l)
	}
}

// P6.3

func TestCutAheadOfTheFirst(t *testing.T) {
	for _, draw := range drawLists(t) {
		f, p := row(t, draw, 7), rowed(7)
		for range 3 {
			cuts(t, f, 1, true)
			like(t, f, p)
		}
		cuts(t, f, 4, p.cut(4))
		for range 3 {
			cuts(t, f, 4, true)
			cuts(t, f, 1, true)
			like(t, f, p)
		}
	}
}

func TestCutAheadOfTheLast(t *testing.T) {
	for _, draw := range drawLists(t) {
		f, p := row(t, draw, 8), rowed(8)
		for i := int32(8); i > 1; i-- {
			cuts(t, f, i, p.cut(i))
			walks(t, f, i, i)
			walks(t, f, 1, upTo(1, i-1)...)
			like(t, f, p)
		}
	}
}

func TestCutOfAnItemAlone(t *testing.T) {
	f, p := treap.New(nil), &plain{}
	makes(t, f, worth(5), p.make(worth(5)))
	makes(t, f, worth(6), p.make(worth(6)))
	cuts(t, f, 1, true)
	cuts(t, f, 1, true)
	like(t, f, p)
	frees(t, f, 1, p.free(1))
	like(t, f, p)
}

func TestCutAtEachPlace(t *testing.T) {
	for _, draw := range drawLists(t) {
		for i := int32(1); i <= 13; i++ {
			f, p := row(t, draw, 13), rowed(13)
			cuts(t, f, i, p.cut(i))
			walks(t, f, 13, upTo(i, 13)...)
			like(t, f, p)
		}
	}
}

func TestCutOfNone(t *testing.T) {
	f, p := several(t, nil), rowed(9)
	for _, i := range []int32{6, 7, 8, 9} {
		p.cut(i)
	}
	p.free(9)
	p.join(8, 7)
	for _, i := range append(wrong(), 9, 10, 11, 2+1<<8, 2+1<<16) {
		cuts(t, f, i, false)
	}
	like(t, f, p)
}

func TestJoinWithinASequence(t *testing.T) {
	for _, draw := range drawLists(t) {
		f, p := row(t, draw, 6), rowed(6)
		cuts(t, f, 5, p.cut(5))
		for _, l := range [][]int32{{1, 2, 3, 4}, {5, 6}} {
			for _, i := range l {
				for _, j := range l {
					joins(t, f, i, j, false)
				}
			}
		}
		like(t, f, p)
	}
	f, p := treap.New(nil), &plain{}
	makes(t, f, worth(1), p.make(worth(1)))
	joins(t, f, 1, 1, false)
	like(t, f, p)
}

// Whichever items are named, it is the sequence of the second one that stands behind.
func TestJoinByAnyTwo(t *testing.T) {
	for _, draw := range drawLists(t) {
		for i := int32(1); i <= 5; i++ {
			for j := int32(6); j <= 9; j++ {
				f, p := row(t, draw, 9), rowed(9)
				cuts(t, f, 6, p.cut(6))
				joins(t, f, j, i, p.join(j, i))
				walks(t, f, i, 6, 7, 8, 9, 1, 2, 3, 4, 5)
				like(t, f, p)
				joins(t, f, i, j, false)
				joins(t, f, j, i, false)
			}
		}
	}
}

func TestJoinOfNone(t *testing.T) {
	f, p := row(t, nil, 5), rowed(5)
	cuts(t, f, 3, p.cut(3))
	cuts(t, f, 5, p.cut(5))
	frees(t, f, 5, p.free(5))
	for _, i := range append(wrong(), 5, 6, 7, 3+1<<8, 3+1<<16) {
		joins(t, f, i, i, false)
		for _, j := range []int32{0, 1, 2, 3, 4, 5, 6} {
			joins(t, f, i, j, false)
			joins(t, f, j, i, false)
		}
		like(t, f, p)
	}
}

func TestLenWhileItemsComeAndGo(t *testing.T) {
	f := treap.New(nil)
	has(t, f, 0)
	for i := 1; i <= 50; i++ {
		f.Make(worth(i))
		has(t, f, i)
	}
	for i := int32(2); i <= 50; i++ {
		joins(t, f, 1, i, true)
		has(t, f, 50)
	}
	for i := int32(50); i > 1; i-- {
		frees(t, f, i, false)
		has(t, f, int(i))
		cuts(t, f, i, true)
		has(t, f, int(i))
		frees(t, f, i, true)
		has(t, f, int(i)-1)
	}
}

func TestNilForest(t *testing.T) {
	var f *treap.Forest
	for range 3 {
		makes(t, f, worth(5), 0)
		has(t, f, 0)
		for _, i := range append(wrong(), 1, 2) {
			frees(t, f, i, false)
			gets(t, f, i, treap.Value{}, false)
			sets(t, f, i, worth(1), false)
			stands(t, f, i, -1, 0)
			totals(t, f, i, none())
			leads(t, f, i, 0, 0)
			walks(t, f, i)
			cuts(t, f, i, false)
			for _, mask := range masks() {
				finds(t, f, i, mask, 0)
			}
			for _, j := range append(wrong(), 1, 2) {
				same(t, f, i, j, false)
				joins(t, f, i, j, false)
			}
		}
	}
}

func TestForestThatNewDidNotMake(t *testing.T) {
	var held struct{ f treap.Forest }
	for _, f := range []*treap.Forest{new(treap.Forest), {}, &held.f} {
		like(t, f, &plain{})
		for _, i := range append(wrong(), 1, 2) {
			frees(t, f, i, false)
			sets(t, f, i, worth(1), false)
			cuts(t, f, i, false)
			joins(t, f, i, i, false)
		}
		like(t, f, &plain{})
		p := &plain{}
		shake(t, f, p, 17, 400, 12)
	}
}

// P6.4

// shake does what may be done to a forest and to its plain one, in any order, with numbers that are items and some that are not.
func shake(t *testing.T, f *treap.Forest, p *plain, seed uint64, steps, items int) {
	t.Helper()
	next := shaken(seed)
	for step := range steps {
		i, j := int32(next(len(p.there)+3)), int32(next(len(p.there)+3))
		x := treap.Value{Count: next(9), Sum: next(1000) - 500, Least: next(50) - 10, Mark: uint8(1<<next(8)) * uint8(next(2))}
		switch what := next(10); {
		case what < 2 && f.Len() < items:
			makes(t, f, x, p.make(x))
		case what < 3:
			frees(t, f, i, p.free(i))
		case what < 4:
			sets(t, f, i, x, p.set(i, x))
		case what < 6:
			cuts(t, f, i, p.cut(i))
		default:
			joins(t, f, i, j, p.join(i, j))
		}
		likeAt(t, f, p, i)
		if step%20 == 0 {
			like(t, f, p)
		}
	}
	like(t, f, p)
}

func TestSequencesAreLists(t *testing.T) {
	for what, draw := range drawLists(t) {
		t.Run(what, func(t *testing.T) {
			for seed := range uint64(6) {
				shake(t, treap.New(drawing(t, draw)), &plain{}, seed, 500, 12)
				shake(t, treap.New(drawing(t, draw)), &plain{}, seed, 300, 40)
			}
		})
	}
	shake(t, treap.New(nil), &plain{}, 99, 1000, 15)
}

// told is all that a forest answers to the same calls: those of a seed.
func told(f *treap.Forest, seed uint64) []any {
	next := shaken(seed)
	var l []any
	for range 1500 {
		i, j := int32(next(30)), int32(next(30))
		switch next(8) {
		case 0, 1:
			l = append(l, f.Make(worth(next(200))))
		case 2:
			l = append(l, f.Free(i))
		case 3:
			l = append(l, f.Set(i, worth(next(200))))
		case 4:
			l = append(l, f.Cut(i))
		default:
			l = append(l, f.Join(i, j))
		}
		x, ok := f.Get(j)
		l = append(l, x, ok, f.Same(i, j), f.Place(i), f.Size(j), f.Total(i), f.First(i), f.Next(j), f.Find(i, uint8(next(256))), f.Len())
		for k := range f.Walk(j) {
			l = append(l, k)
		}
	}
	return l
}

func TestWhatIsDrawnTurnsNoAnswer(t *testing.T) {
	for seed := range uint64(4) {
		want := told(treap.New(nil), seed)
		for what, draw := range drawLists(t) {
			if l := told(treap.New(drawing(t, draw)), seed); !slices.Equal(l, want) {
				t.Errorf("%s: other answers than without draws", what)
			}
		}
		if l := told(new(treap.Forest), seed); !slices.Equal(l, want) {
			t.Error("a forest that New did not make: other answers than without draws")
		}
		// Draws of which others take some on the way are draws, too.
		d := drawing(t, []uint32{3, 1, 4})
		f, g := treap.New(d), treap.New(d)
		told(g, seed+1)
		d.Next()
		if l := told(f, seed); !slices.Equal(l, want) {
			t.Error("draws of two forests: other answers than without draws")
		}
	}
}

func TestCutAndJoinedAgain(t *testing.T) {
	for _, draw := range drawLists(t) {
		f, p := row(t, draw, 25), rowed(25)
		for i := int32(2); i <= 25; i++ {
			cuts(t, f, i, true)
			same(t, f, 1, i, false)
			joins(t, f, 1, i, true)
			like(t, f, p)
		}
		// Into single ones, and joined again in another order of joins.
		for i := int32(2); i <= 25; i++ {
			cuts(t, f, i, true)
		}
		for width := int32(1); width < 25; width *= 2 {
			for i := int32(1); i+width <= 25; i += 2 * width {
				joins(t, f, i, i+width, true)
			}
		}
		like(t, f, p)
	}
}

func TestJoinedAndCutAgain(t *testing.T) {
	for _, draw := range drawLists(t) {
		for i := int32(2); i <= 25; i++ {
			f, p := row(t, draw, 25), rowed(25)
			cuts(t, f, i, p.cut(i))
			like(t, f, p)
			joins(t, f, i, 1, true)
			walks(t, f, 1, append(upTo(i, 25), upTo(1, i-1)...)...)
			cuts(t, f, 1, true)
			like(t, f, p)
			joins(t, f, 1, i, true)
			cuts(t, f, i, true)
			like(t, f, p)
		}
	}
}

// ordered holds a long sequence against a list: all places, the sum, and some marks.
func ordered(t *testing.T, f *treap.Forest, want []int32) {
	t.Helper()
	walks(t, f, want[len(want)/2], want...)
	sum := none()
	for place, i := range want {
		x, _ := f.Get(i)
		sum.Count += x.Count
		sum.Sum += x.Sum
		sum.Least = min(sum.Least, x.Least)
		sum.Mark |= x.Mark
		stands(t, f, i, place, len(want))
		if place > 0 {
			leads(t, f, want[place-1], want[0], i)
		}
	}
	leads(t, f, want[len(want)-1], want[0], 0)
	totals(t, f, want[0], sum)
	totals(t, f, want[len(want)-1], sum)
}

// long is a value with a mark on few items only.
func long(i int32) treap.Value {
	x := treap.Value{Count: 1, Sum: int(i), Least: int(i%1000) - 300}
	if i%777 == 5 {
		x.Mark = 2
	}
	return x
}

// inserted puts an item into the middle of a sequence, and of a list that is like it.
func inserted(t *testing.T, f *treap.Forest, l []int32, i int32) []int32 {
	t.Helper()
	half := len(l) / 2
	if half > 0 {
		cuts(t, f, l[half], true)
		joins(t, f, l[0], i, true)
	}
	if len(l) > 0 {
		joins(t, f, i, l[half], true)
	}
	return slices.Insert(l, half, i)
}

func TestLongSequences(t *testing.T) {
	const n = 6000
	for what, draw := range drawLists(t) {
		behind, front, middle := treap.New(drawing(t, draw)), treap.New(drawing(t, draw)), treap.New(drawing(t, draw))
		var inward []int32
		for i := int32(1); i <= n; i++ {
			for _, f := range []*treap.Forest{behind, front, middle} {
				makes(t, f, long(i), i)
			}
			joins(t, behind, i/2, i, i > 1)
			joins(t, front, i, i/2, i > 1)
			inward = inserted(t, middle, inward, i)
		}
		ordered(t, behind, upTo(1, n))
		down := upTo(1, n)
		slices.Reverse(down)
		ordered(t, front, down)
		ordered(t, middle, inward)
		finds(t, behind, n, 2, 5)
		finds(t, front, n, 2, 7*777+5)
		if t.Failed() {
			t.Fatal(what)
		}
	}
}

func TestALongSequenceIsCutAndJoined(t *testing.T) {
	const n = 5000
	next := shaken(8)
	f := treap.New(nil)
	var want []int32
	for i := int32(1); i <= n; i++ {
		makes(t, f, long(i), i)
		joins(t, f, 1, i, i > 1)
		want = append(want, i)
	}
	for round := range 300 {
		k := 1 + next(n-1)
		cuts(t, f, want[k], true)
		stands(t, f, want[n-1], n-1-k, n-k)
		stands(t, f, want[0], 0, k)
		joins(t, f, want[k+next(n-k)], want[next(k)], true)
		want = slices.Concat(want[k:], want[:k])
		if round%30 == 0 {
			ordered(t, f, want)
		}
	}
	ordered(t, f, want)
}

// falling are the numbers 1 to n, by falling priorities, if draws of no list draw them.
func falling(n int) []int32 {
	d := new(draws.Draws)
	priority := make([]uint32, n+1)
	for i := 1; i <= n; i++ {
		priority[i] = d.Next()
	}
	l := upTo(1, int32(n))
	slices.SortFunc(l, func(i, j int32) int { return int(priority[j]) - int(priority[i]) })
	return l
}

// Whoever knows the draws can make trees that are as deep as they are great: that, too, ends, and turns no answer.
func TestTheDeepestTrees(t *testing.T) {
	const n = 200000
	l := falling(n)
	for _, front := range []bool{false, true} {
		f := treap.New(nil)
		for i := int32(1); i <= n; i++ {
			makes(t, f, treap.Value{Count: 1, Sum: int(i), Least: int(i)}, i)
		}
		want := slices.Clone(l)
		last := l[n-1]
		for _, i := range slices.Backward(l[:n-1]) {
			if front {
				joins(t, f, last, i, true)
			} else {
				joins(t, f, i, last, true)
			}
			last = i
		}
		if front {
			slices.Reverse(want)
		}
		walks(t, f, want[n/2], want...)
		totals(t, f, want[n-1], treap.Value{Count: n, Sum: n * (n + 1) / 2, Least: 1})
		for _, k := range []int{1, n / 3, n / 2, n - 1} {
			stands(t, f, want[k], k, n)
			cuts(t, f, want[k], true)
			stands(t, f, want[n-1], n-1-k, n-k)
			stands(t, f, want[k-1], k-1, k)
			joins(t, f, want[0], want[k], true)
			sets(t, f, want[k], treap.Value{Mark: 8}, true)
			finds(t, f, want[0], 8, want[k])
			sets(t, f, want[k], treap.Value{}, true)
		}
		walks(t, f, want[0], want...)
	}
}

// The rules

// R3: what is done to one forest leaves another one as it is, be it of the same draws.
func TestForestsKnowNothingOfOneAnother(t *testing.T) {
	d := drawing(t, []uint32{1, 2, 3})
	f, p := row(t, nil, 6), rowed(6)
	g, q := treap.New(d), &plain{}
	h, r := treap.New(d), &plain{}
	shake(t, g, q, 1, 200, 10)
	like(t, f, p)
	like(t, h, r)
	shake(t, h, r, 2, 200, 10)
	like(t, f, p)
	like(t, g, q)
	shake(t, f, p, 3, 200, 10)
	like(t, g, q)
	like(t, h, r)
	for i := int32(1); i <= 10; i++ {
		g.Cut(i)
		g.Free(i)
	}
	like(t, f, p)
	like(t, h, r)
}

func TestForestsInTurns(t *testing.T) {
	d := drawing(t, []uint32{9, 9, 9})
	fs, ps := []*treap.Forest{treap.New(d), treap.New(nil), treap.New(d), new(treap.Forest)}, []*plain{{}, {}, {}, {}}
	for round := range uint64(40) {
		k := round % 4
		shake(t, fs[k], ps[k], round, 30, 9)
		for k := range fs {
			like(t, fs[k], ps[k])
		}
	}
}

// R3: asking changes nothing.
func TestAskingChangesNothing(t *testing.T) {
	f, p := row(t, tied(), 12), rowed(12)
	for range 3 {
		like(t, f, p)
	}
	cuts(t, f, 6, p.cut(6))
	for range 3 {
		like(t, f, p)
	}
}

// R4: a value that was handed out is the caller's own.
func TestValuesAreHandedOverAsTheyAre(t *testing.T) {
	f := treap.New(nil)
	x := worth(4)
	makes(t, f, x, 1)
	x.Sum = 1
	gets(t, f, 1, worth(4), true)
	y, _ := f.Get(1)
	y.Sum = 2
	z := f.Total(1)
	z.Sum = 3
	gets(t, f, 1, worth(4), true)
	totals(t, f, 1, worth(4))
}

func TestExamples(t *testing.T) {
	f := treap.New(nil)
	makes(t, f, treap.Value{Count: 1}, 1)
	makes(t, f, treap.Value{Count: 2}, 2)
	makes(t, f, treap.Value{Count: 4}, 3)
	joins(t, f, 1, 2, true)
	joins(t, f, 2, 3, true)
	joins(t, f, 1, 3, false)
	totals(t, f, 1, treap.Value{Count: 7})
	stands(t, f, 3, 2, 3)
	cuts(t, f, 2, true)
	totals(t, f, 1, treap.Value{Count: 1})
	totals(t, f, 3, treap.Value{Count: 6})
	joins(t, f, 3, 1, true)
	walks(t, f, 1, 2, 3, 1)
}
