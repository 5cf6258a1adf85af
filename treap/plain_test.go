package treap_test

import (
	"math"
	"slices"
	"testing"

	"tidewalk/api"
	"tidewalk/draws"
	"tidewalk/treap"
)

// plain is a forest as lists of numbers, with what each item has, and the free numbers in the order in which they were freed.
type plain struct {
	values []treap.Value
	there  []bool
	freed  []int32
	lists  [][]int32
}

func (p *plain) has(i int32) bool { return i >= 1 && int(i) <= len(p.there) && p.there[i-1] }

// where is which list an item stands in, and where there; -1, -1 of none.
func (p *plain) where(i int32) (list, place int) {
	for n, l := range p.lists {
		if k := slices.Index(l, i); k >= 0 {
			return n, k
		}
	}
	return -1, -1
}

// of is the list in which an item stands, nil of none.
func (p *plain) of(i int32) []int32 {
	n, _ := p.where(i)
	if n < 0 {
		return nil
	}
	return p.lists[n]
}

func (p *plain) make(x treap.Value) int32 {
	i := int32(len(p.there) + 1)
	if n := len(p.freed); n > 0 {
		i, p.freed = p.freed[n-1], p.freed[:n-1]
		p.values[i-1], p.there[i-1] = x, true
	} else {
		p.values, p.there = append(p.values, x), append(p.there, true)
	}
	p.lists = append(p.lists, []int32{i})
	return i
}

func (p *plain) free(i int32) bool {
	n, _ := p.where(i)
	if n < 0 || len(p.lists[n]) != 1 {
		return false
	}
	p.lists = slices.Delete(p.lists, n, n+1)
	p.there[i-1] = false
	p.freed = append(p.freed, i)
	return true
}

func (p *plain) set(i int32, x treap.Value) bool {
	if !p.has(i) {
		return false
	}
	p.values[i-1] = x
	return true
}

func (p *plain) cut(i int32) bool {
	n, k := p.where(i)
	if n < 0 {
		return false
	}
	if k > 0 {
		p.lists = append(p.lists, slices.Clone(p.lists[n][k:]))
		p.lists[n] = slices.Clone(p.lists[n][:k])
	}
	return true
}

func (p *plain) join(i, j int32) bool {
	m, _ := p.where(i)
	n, _ := p.where(j)
	if m < 0 || n < 0 || m == n {
		return false
	}
	p.lists[m] = slices.Concat(p.lists[m], p.lists[n])
	p.lists = slices.Delete(p.lists, n, n+1)
	return true
}

// total is the sum of a list's items.
func (p *plain) total(l []int32) treap.Value {
	x := treap.Value{Least: 1 << 62}
	for _, i := range l {
		y := p.values[i-1]
		x.Count += y.Count
		x.Sum += y.Sum
		if y.Least < x.Least {
			x.Least = y.Least
		}
		x.Mark |= y.Mark
	}
	return x
}

func (p *plain) find(l []int32, mask uint8) int32 {
	for _, i := range l {
		if p.values[i-1].Mark&mask != 0 {
			return i
		}
	}
	return 0
}

// numbers are those that were ever items, and some around them.
func (p *plain) numbers() []int32 {
	l := wrong()
	for i := range len(p.there) + 2 {
		l = append(l, int32(i+1))
	}
	return l
}

// masks are those of no bit, of each bit, of some and of all.
func masks() []uint8 {
	return []uint8{0, 1, 2, 4, 8, 16, 32, 64, 128, 3, 6, 0x50, 0xf0, 0x7f, 0xff}
}

// like holds all that a forest tells against a plain one.
func like(t *testing.T, f *treap.Forest, p *plain) {
	t.Helper()
	if n := len(p.there) - len(p.freed); f.Len() != n {
		t.Fatalf("Len = %d: want %d", f.Len(), n)
	}
	for _, i := range p.numbers() {
		likeAt(t, f, p, i)
	}
}

// likeAt does so for one number, be it an item or not.
func likeAt(t *testing.T, f *treap.Forest, p *plain, i int32) {
	t.Helper()
	l := p.of(i)
	_, place := p.where(i)
	value := treap.Value{}
	first, next := int32(0), int32(0)
	if l != nil {
		value, first = p.values[i-1], l[0]
		if place+1 < len(l) {
			next = l[place+1]
		}
	}
	gets(t, f, i, value, l != nil)
	stands(t, f, i, place, len(l))
	totals(t, f, i, p.total(l))
	leads(t, f, i, first, next)
	walks(t, f, i, l...)
	for _, mask := range masks() {
		finds(t, f, i, mask, p.find(l, mask))
	}
	for _, j := range p.numbers() {
		if want := slices.Contains(l, j); f.Same(i, j) != want {
			t.Fatalf("Same(%d, %d) = %v", i, j, !want)
		}
	}
}

func makes(t *testing.T, f *treap.Forest, x treap.Value, want int32) {
	t.Helper()
	if i := f.Make(x); i != want {
		t.Fatalf("Make(%v) = %d: want %d", x, i, want)
	}
}

func frees(t *testing.T, f *treap.Forest, i int32, want bool) {
	t.Helper()
	if ok := f.Free(i); ok != want {
		t.Fatalf("Free(%d) = %v: want %v", i, ok, want)
	}
}

func gets(t *testing.T, f *treap.Forest, i int32, want treap.Value, there bool) {
	t.Helper()
	if x, ok := f.Get(i); x != want || ok != there {
		t.Fatalf("Get(%d) = %v, %v: want %v, %v", i, x, ok, want, there)
	}
}

func sets(t *testing.T, f *treap.Forest, i int32, x treap.Value, want bool) {
	t.Helper()
	if ok := f.Set(i, x); ok != want {
		t.Fatalf("Set(%d, %v) = %v: want %v", i, x, ok, want)
	}
}

func cuts(t *testing.T, f *treap.Forest, i int32, want bool) {
	t.Helper()
	if ok := f.Cut(i); ok != want {
		t.Fatalf("Cut(%d) = %v: want %v", i, ok, want)
	}
}

func joins(t *testing.T, f *treap.Forest, i, j int32, want bool) {
	t.Helper()
	if ok := f.Join(i, j); ok != want {
		t.Fatalf("Join(%d, %d) = %v: want %v", i, j, ok, want)
	}
}

func same(t *testing.T, f *treap.Forest, i, j int32, want bool) {
	t.Helper()
	if ok := f.Same(i, j); ok != want {
		t.Fatalf("Same(%d, %d) = %v: want %v", i, j, ok, want)
	}
}

func stands(t *testing.T, f *treap.Forest, i int32, place, size int) {
	t.Helper()
	if f.Place(i) != place || f.Size(i) != size {
		t.Fatalf("Place, Size(%d) = %d, %d: want %d, %d", i, f.Place(i), f.Size(i), place, size)
	}
}

func totals(t *testing.T, f *treap.Forest, i int32, want treap.Value) {
	t.Helper()
	if x := f.Total(i); x != want {
		t.Fatalf("Total(%d) = %v: want %v", i, x, want)
	}
}

func leads(t *testing.T, f *treap.Forest, i, first, next int32) {
	t.Helper()
	if f.First(i) != first || f.Next(i) != next {
		t.Fatalf("First, Next(%d) = %d, %d: want %d, %d", i, f.First(i), f.Next(i), first, next)
	}
}

func walks(t *testing.T, f *treap.Forest, i int32, want ...int32) {
	t.Helper()
	if l := slices.Collect(f.Walk(i)); !slices.Equal(l, want) {
		t.Fatalf("Walk(%d) = %v: want %v", i, l, want)
	}
}

func finds(t *testing.T, f *treap.Forest, i int32, mask uint8, want int32) {
	t.Helper()
	if k := f.Find(i, mask); k != want {
		t.Fatalf("Find(%d, %#x) = %d: want %d", i, mask, k, want)
	}
}

func has(t *testing.T, f *treap.Forest, want int) {
	t.Helper()
	if n := f.Len(); n != want {
		t.Fatalf("Len = %d: want %d", n, want)
	}
}

// numbers that are no item of a forest with at most a million items
func wrong() []int32 {
	return []int32{0, -1, -2, -1000, math.MinInt32, math.MinInt32 + 1, math.MaxInt32, math.MaxInt32 - 1, 1 << 30}
}

// none is the sum of no items.
func none() treap.Value { return treap.Value{Least: 1 << 62} }

// worth is a value in which all fields tell of n.
func worth(n int) treap.Value {
	return treap.Value{Count: n, Sum: 100 * n, Least: 1000 - n, Mark: uint8(n)}
}

// shaken are numbers from all over, the same ones for the same seed.
func shaken(seed uint64) func(int) int {
	return func(n int) int {
		seed = seed*6364136223846793005 + 1442695040888963407
		return int((seed >> 33) % uint64(n))
	}
}

func drawing(t *testing.T, l []uint32) *draws.Draws {
	t.Helper()
	d, e := draws.New(l)
	if e != api.OK {
		t.Fatalf("draws of %d numbers: %d", len(l), e)
	}
	return d
}

// row is a forest with items 1 to n, with the values worth(1) to worth(n), in one sequence.
func row(t *testing.T, l []uint32, n int) *treap.Forest {
	t.Helper()
	f := treap.New(drawing(t, l))
	for i := 1; i <= n; i++ {
		makes(t, f, worth(i), int32(i))
		if i > 1 {
			joins(t, f, 1, int32(i), true)
		}
	}
	return f
}

// upTo are the numbers from a to b.
func upTo(a, b int32) []int32 {
	var l []int32
	for i := a; i <= b; i++ {
		l = append(l, i)
	}
	return l
}

// banded is a list of draws by which the priority i is in the band that of tells, of as many bands as there are numbers.
func banded(t *testing.T, many int, of func(int) int) []uint32 {
	t.Helper()
	l := make([]uint32, many)
	for i := range l {
		for drawnAt(t, l[:i+1])/(math.MaxUint32/uint32(many)+1) != uint32(of(i)) {
			l[i]++
		}
	}
	return l
}

// drawnAt is what the last number of a list comes to.
func drawnAt(t *testing.T, l []uint32) uint32 {
	d := drawing(t, l)
	for range len(l) - 1 {
		d.Next()
	}
	return d.Next()
}

// tied is a list by which the first twelve priorities are one number.
func tied() []uint32 {
	return []uint32{1036824584, 883424985, 139242293, 206842536, 9189363, 884912776,
		150751695, 166318589, 101044875, 419165126, 205552159, 134525668}
}

// drawLists are lists of draws that shape trees in one way and another.
func drawLists(t *testing.T) map[string][]uint32 {
	t.Helper()
	spread := make([]uint32, draws.Most)
	for i := range spread {
		spread[i] = uint32(i+1) * 2654435761
	}
	return map[string][]uint32{
		"none":           nil,
		"zeros":          make([]uint32, 50),
		"greatest":       slices.Repeat([]uint32{math.MaxUint32}, 60),
		"1 2 3":          {1, 2, 3},
		"some":           spread[:77],
		"as many as may": spread,
		"rising":         banded(t, 64, func(i int) int { return i }),
		"falling":        banded(t, 64, func(i int) int { return 63 - i }),
		"to and fro":     banded(t, 64, func(i int) int { return i%2*63 + (1-i%2*2)*(i/2) }),
		"tied":           tied(),
	}
}

func TestDrawListsAreWhatTheyAreCalled(t *testing.T) {
	lists := drawLists(t)
	for what, right := range map[string]func(x, y uint32) bool{
		"rising":  func(x, y uint32) bool { return x < y },
		"falling": func(x, y uint32) bool { return x > y },
		"tied":    func(x, y uint32) bool { return x == y },
	} {
		d := drawing(t, lists[what])
		last := d.Next()
		for i := 1; i < len(lists[what]); i++ {
			next := d.Next()
			if !right(last, next) {
				t.Fatalf("%s: %d at %d, then %d", what, last, i-1, next)
			}
			last = next
		}
	}
}
