package draws_test

import (
	"math"
	"math/big"
	"slices"
	"testing"

	"tidewalk/api"
	"tidewalk/draws"
)

func made(t *testing.T, l []uint32) *draws.Draws {
	t.Helper()
	d, e := draws.New(l)
	if e != api.OK || d == nil {
		t.Fatalf("New of %d numbers = %v, %d: want draws", len(l), d, e)
	}
	return d
}

// drawn are the next ones, with Len held against the count at each.
func drawn(t *testing.T, d *draws.Draws, many int) []uint32 {
	t.Helper()
	ahead := d.Len()
	l := make([]uint32, many)
	for i := range l {
		l[i] = d.Next()
		if n := d.Len(); n != ahead+i+1 {
			t.Fatalf("Len = %d behind %d draws", n, ahead+i+1)
		}
	}
	return l
}

func hexed(s string) *big.Int {
	n, ok := new(big.Int).SetString(s, 16)
	if !ok {
		panic(s)
	}
	return n
}

// reckoned is the number i of a list, by numbers that never wrap round.
func reckoned(l []uint32, i int) uint32 {
	whole := new(big.Int).Lsh(big.NewInt(1), 64)
	stir := func(z *big.Int, power uint) *big.Int {
		part := new(big.Int).Quo(z, new(big.Int).Lsh(big.NewInt(1), power))
		return part.Xor(z, part)
	}
	times := func(z *big.Int, s string) *big.Int {
		z = new(big.Int).Mul(z, hexed(s))
		return z.Mod(z, whole)
	}
	z := times(big.NewInt(int64(i)+1), "9e3779b97f4a7c15")
	if i < len(l) {
		z.Add(z, big.NewInt(int64(l[i])))
		z.Mod(z, whole)
	}
	z = times(stir(z, 30), "bf58476d1ce4e5b9")
	z = times(stir(z, 27), "94d049bb133111eb")
	z = stir(z, 31)
	return uint32(z.Quo(z, big.NewInt(1<<32)).Uint64())
}

func reckonedAll(l []uint32, many int) []uint32 {
	all := make([]uint32, many)
	for i := range all {
		all[i] = reckoned(l, i)
	}
	return all
}

// spread is a list of numbers from all over 32 bits, none of them 0.
func spread(many int) []uint32 {
	l := make([]uint32, many)
	for i := range l {
		l[i] = uint32(i+1)*2654435761 | 1
	}
	return l
}

func same(t *testing.T, what string, got, want []uint32) {
	t.Helper()
	if len(got) != len(want) {
		t.Fatalf("%s: %d numbers, want %d", what, len(got), len(want))
	}
	for i := range got {
		if got[i] != want[i] {
			t.Errorf("%s: the number %d is %08x, want %08x", what, i, got[i], want[i])
			return
		}
	}
}

// P4.1

// Written out, so that no slip of the reckoning above is shared with the package.
func TestNumbersWrittenOut(t *testing.T) {
	behind := []uint32{0xe220a839, 0x6e789e6a, 0x06c45d18, 0xf88bb8a8, 0x1b39896a, 0x53cb9f0c, 0x2c829abe, 0xc584133a}
	same(t, "nil list", drawn(t, made(t, nil), 8), behind)
	same(t, "list of none", drawn(t, made(t, []uint32{}), 8), behind)
	same(t, "list of 1, 2, 3", drawn(t, made(t, []uint32{1, 2, 3}), 6),
		[]uint32{0x910a2dec, 0xbfc84610, 0x9cebe8a6, 0xf88bb8a8, 0x1b39896a, 0x53cb9f0c})
	same(t, "least and greatest numbers", drawn(t, made(t, []uint32{math.MaxUint32, 0, 1 << 31, 1<<31 - 1, 1}), 7),
		[]uint32{0x73b13ba2, 0x6e789e6a, 0xe2c35cdf, 0xdf32f1e1, 0x71bb54d8, 0x53cb9f0c, 0x2c829abe})
}

func TestNumbersOfTheGreatestListWrittenOut(t *testing.T) {
	l := make([]uint32, draws.Most)
	for i := range l {
		l[i] = uint32(7*i*i + 3)
	}
	got := drawn(t, made(t, l), 10000)
	for i, want := range map[int]uint32{
		0: 0x1d0b14e4, 1: 0xbbff7c59, 2047: 0xe02a24a5, 4094: 0x934f75b2, 4095: 0x7f0ee17b,
		4096: 0xbb606067, 4097: 0x931e3e80, 9999: 0x488601e3,
	} {
		if got[i] != want {
			t.Errorf("the number %d is %08x, want %08x", i, got[i], want)
		}
	}
}

func TestNumbersWithinAListAndBehindIt(t *testing.T) {
	for _, many := range []int{0, 1, 2, 3, 7, 64, 100, 1000, draws.Most - 1, draws.Most} {
		l := spread(many)
		same(t, "spread list", drawn(t, made(t, l), many+40), reckonedAll(l, many+40))
	}
	for _, x := range []uint32{0, 1, 2, 1<<31 - 1, 1 << 31, math.MaxUint32 - 1, math.MaxUint32} {
		for _, many := range []int{1, 2, 5, 300} {
			l := slices.Repeat([]uint32{x}, many)
			same(t, "list of one number", drawn(t, made(t, l), many+3), reckonedAll(l, many+3))
		}
	}
}

// The number behind the last of a list is drawn with 0, whatever the last one is.
func TestLastNumberAndTheFirstBehindIt(t *testing.T) {
	none := reckonedAll(nil, draws.Most+1)
	for _, many := range []int{1, 2, 9, draws.Most - 1, draws.Most} {
		for _, last := range []uint32{1, 12345, math.MaxUint32} {
			l := make([]uint32, many)
			l[many-1] = last
			want := slices.Clone(none[:many+1])
			want[many-1] = reckoned(l, many-1)
			if want[many-1] == none[many-1] {
				t.Fatalf("%d at %d is drawn as 0 is: take another number", last, many-1)
			}
			same(t, "list whose last number is not 0", drawn(t, made(t, l), many+1), want)
		}
	}
}

func TestNewOfAsManyAsMayBe(t *testing.T) {
	if draws.Most != 4096 {
		t.Errorf("Most is %d", draws.Most)
	}
	for _, many := range []int{0, 1, 4095, 4096} {
		if n := made(t, make([]uint32, many)).Len(); n != 0 {
			t.Errorf("New of %d numbers: Len = %d", many, n)
		}
	}
}

func TestNewOfTooMany(t *testing.T) {
	for _, many := range []int{4097, 4098, 8192, 65536, 1 << 20} {
		for _, l := range [][]uint32{make([]uint32, many), spread(many)} {
			if d, e := draws.New(l); d != nil || e != api.ErrArg {
				t.Errorf("New of %d numbers = %v, %d", many, d, e)
			}
		}
	}
}

// Room behind a list is none of its numbers.
func TestNewOfAListWithSpareRoom(t *testing.T) {
	l := spread(2 * draws.Most)
	for _, many := range []int{0, 1, 3, draws.Most} {
		same(t, "list with spare room", drawn(t, made(t, l[:many]), many+9), reckonedAll(l[:many], many+9))
	}
}

func TestLenDrawsNothing(t *testing.T) {
	d := made(t, []uint32{5, 6})
	var got []uint32
	for i := range 6 {
		for range 3 {
			if n := d.Len(); n != i {
				t.Fatalf("Len = %d behind %d draws", n, i)
			}
		}
		got = append(got, d.Next())
	}
	same(t, "Len between draws", got, reckonedAll([]uint32{5, 6}, 6))
}

func TestNilDraws(t *testing.T) {
	var d *draws.Draws
	for range 5 {
		if n := d.Len(); n != 0 {
			t.Errorf("Len = %d", n)
		}
		if x := d.Next(); x != 0 {
			t.Errorf("Next = %d", x)
		}
	}
	if n := d.Len(); n != 0 {
		t.Errorf("Len = %d behind Next", n)
	}
}

func TestDrawsThatNewDidNotMake(t *testing.T) {
	var held struct{ d draws.Draws }
	for _, d := range []*draws.Draws{new(draws.Draws), {}, &held.d} {
		if n := d.Len(); n != 0 {
			t.Errorf("Len = %d", n)
		}
		same(t, "draws that New did not make", drawn(t, d, 100), reckonedAll(nil, 100))
	}
}

// P4.2

func TestDrawsOfOneListAreTheSame(t *testing.T) {
	for _, l := range [][]uint32{nil, {0}, {1, 2, 3}, spread(500), spread(draws.Most)} {
		want := drawn(t, made(t, l), len(l)+50)
		same(t, "the list again", drawn(t, made(t, l), len(l)+50), want)
		same(t, "a list like it", drawn(t, made(t, slices.Clone(l)), len(l)+50), want)
	}
}

func TestBehindAListDrawsAreThoseOfAnyOther(t *testing.T) {
	many := draws.Most + 200
	none := drawn(t, made(t, nil), many)
	for _, l := range [][]uint32{{0}, {9}, {1, 2, 3}, spread(77), slices.Repeat([]uint32{math.MaxUint32}, 1000), spread(draws.Most)} {
		got := drawn(t, made(t, l), many)
		same(t, "behind the list", got[len(l):], none[len(l):])
	}
}

func TestZerosAtTheEndOfAListChangeNothing(t *testing.T) {
	l := spread(10)
	want := drawn(t, made(t, l), draws.Most+10)
	for _, zeros := range []int{1, 2, 100, draws.Most - 10} {
		longer := append(slices.Clone(l), make([]uint32, zeros)...)
		same(t, "zeros at the end", drawn(t, made(t, longer), draws.Most+10), want)
	}
}

func TestListsThatPartInOneNumber(t *testing.T) {
	l := spread(50)
	want := drawn(t, made(t, l), 80)
	for i := range l {
		other := slices.Clone(l)
		other[i] ^= 1 << (i % 32)
		got := drawn(t, made(t, other), 80)
		if got[i] == want[i] {
			t.Errorf("the number %d is %08x for %d and for %d", i, got[i], l[i], other[i])
		}
		got[i] = want[i]
		same(t, "all but the number that parts", got, want)
	}
}

func TestDrawsKnowNothingOfOneAnother(t *testing.T) {
	l, other := spread(20), []uint32{4, 4, 4}
	a, b, c := made(t, l), made(t, l), made(t, other)
	var as, bs, cs []uint32
	for i := range 60 {
		as = append(as, a.Next())
		if i%2 == 0 {
			bs = append(bs, b.Next())
		}
		cs = append(cs, drawn(t, c, i%3)...)
		if a.Len() != len(as) || b.Len() != len(bs) || c.Len() != len(cs) {
			t.Fatalf("Len = %d, %d, %d behind %d, %d, %d draws", a.Len(), b.Len(), c.Len(), len(as), len(bs), len(cs))
		}
	}
	same(t, "each time", as, reckonedAll(l, len(as)))
	same(t, "every second time", bs, reckonedAll(l, len(bs)))
	same(t, "another list", cs, reckonedAll(other, len(cs)))
}

// A failed New leaves draws made ahead as they are.
func TestNewOfTooManyChangesNoOtherDraws(t *testing.T) {
	d := made(t, []uint32{8, 9})
	got := drawn(t, d, 1)
	if _, e := draws.New(spread(draws.Most + 1)); e != api.ErrArg {
		t.Fatal(e)
	}
	got = append(got, drawn(t, d, 3)...)
	same(t, "New of too many between draws", got, reckonedAll([]uint32{8, 9}, 4))
}

// The rules

func TestNewDoesNotKeepItsList(t *testing.T) {
	l := spread(30)
	want := reckonedAll(l, 40)
	a, b := made(t, l), made(t, l[:10:20])
	got := drawn(t, a, 5)
	for i := range l {
		l[i] = 77
	}
	same(t, "list changed behind New", append(got, drawn(t, a, 35)...), want)
	same(t, "list with spare room changed", drawn(t, b, 10), want[:10])
	same(t, "behind a changed list", drawn(t, b, 10), reckonedAll(nil, 20)[10:])
}

func TestNothingChangesTheList(t *testing.T) {
	l := spread(draws.Most + 5)
	ahead := slices.Clone(l)
	drawn(t, made(t, l[:20]), 60)
	drawn(t, made(t, l[:draws.Most]), draws.Most+60)
	if _, e := draws.New(l); e != api.ErrArg {
		t.Error(e)
	}
	if !slices.Equal(l, ahead) {
		t.Error("the list or its spare room has changed")
	}
}

func TestExamples(t *testing.T) {
	if d, e := draws.New(make([]uint32, 4097)); d != nil || e != api.ErrArg {
		t.Errorf("New of 4097 numbers = %v, %d", d, e)
	}
	d := made(t, nil)
	ahead := d.Len()
	d.Next()
	d.Next()
	if ahead != 0 || d.Len() != 2 {
		t.Errorf("Len = %d, then %d", ahead, d.Len())
	}
}
