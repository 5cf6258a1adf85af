package levels

import "testing"

func TestNumbersAreTheLeastThatNobodyHas(t *testing.T) {
	seed := uint64(9)
	next := func(n int) int {
		seed = seed*6364136223846793005 + 1442695040888963407
		return int((seed >> 33) % uint64(n))
	}
	var n numbers
	out := map[int]bool{}
	for k := range 20000 {
		// It grows for a while, and then it shrinks, over and over.
		if k/1000%2 == 0 && next(3) > 0 {
			want := 1
			for out[want] {
				want++
			}
			if got := n.take(); got != want {
				t.Fatalf("%d: want %d", got, want)
			}
			out[want] = true
		} else if gone := next(700) + 1; out[gone] {
			n.free(gone)
			delete(out, gone)
		}
		if n.many() != len(out) {
			t.Fatalf("many = %d: want %d", n.many(), len(out))
		}
	}
}

func TestNumbersWithoutAny(t *testing.T) {
	var n numbers
	if n.many() != 0 {
		t.Errorf("many = %d", n.many())
	}
	for k := 1; k <= 3; k++ {
		if got := n.take(); got != k {
			t.Errorf("%d: want %d", got, k)
		}
	}
	n.free(3)
	n.free(1)
	n.free(2)
	if n.many() != 0 {
		t.Errorf("many = %d when all came back", n.many())
	}
	for k := 1; k <= 4; k++ {
		if got := n.take(); got != k {
			t.Errorf("again %d: want %d", got, k)
		}
	}
}
