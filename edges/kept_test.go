package edges

import "testing"

// keptIsRight says that lists and places tell the same, and that no list without numbers is kept.
func keptIsRight(t *testing.T, b *Bag) {
	t.Helper()
	many := 0
	for at, list := range b.lists {
		if len(list) == 0 {
			t.Fatalf("an empty list is kept at %v", at)
		}
		many += len(list)
		for place, e := range list {
			if got, ok := b.places[[3]int{at[0], at[1], e}]; !ok || got != place {
				t.Fatalf("%d at %v: place %d, %v: want %d", e, at, got, ok, place)
			}
		}
	}
	if many != len(b.places) {
		t.Fatalf("%d numbers in lists, %d places", many, len(b.places))
	}
}

// What is kept is the numbers that stand somewhere, and no more.
func TestKeptIsWhatStands(t *testing.T) {
	seed := uint64(3)
	next := func(n int) int {
		seed = seed*6364136223846793005 + 1442695040888963407
		return int((seed >> 33) % uint64(n))
	}
	b := New()
	for range 8000 {
		v, level, e := next(5)-2, next(6)-1, next(8)
		switch next(4) {
		case 0, 1:
			b.Put(v, level, e)
		case 2:
			b.Take(v, level, e)
		case 3:
			// Asking keeps nothing.
			b.Has(v, level, e)
			b.Many(v+9, level)
			for range b.Of(v+9, level) {
			}
		}
		keptIsRight(t, b)
	}
	for v := -2; v <= 2; v++ {
		for level := range highest + 1 {
			for e := range b.Of(v, level) {
				b.Take(v, level, e)
				keptIsRight(t, b)
			}
		}
	}
	if len(b.lists) != 0 || len(b.places) != 0 {
		t.Errorf("%d lists, %d places are kept of an emptied bag", len(b.lists), len(b.places))
	}
}
