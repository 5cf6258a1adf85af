package union

import (
	"math/bits"
	"testing"

	"tidewalk/api"
)

// keptIsRight says that the tops have the sizes and the names of their sets, and that no member is deeper than the size of its set lets it be.
func keptIsRight(t *testing.T, u *Union) {
	t.Helper()
	sizes, names := make([]int, len(u.above)), make([]int, len(u.above))
	tops := 0
	for a := range u.above {
		top, deep := int32(a), 0
		for u.above[top] >= 0 {
			top, deep = u.above[top], deep+1
		}
		if size := -u.above[top]; deep >= bits.Len32(uint32(size)) {
			t.Fatalf("%d is %d deep in a set of %d", a, deep, size)
		}
		if sizes[top] == 0 {
			names[top], tops = a, tops+1
		}
		sizes[top]++
	}
	for a, size := range sizes {
		if size > 0 && (int(-u.above[a]) != size || int(u.least[a]) != names[a]) {
			t.Fatalf("the top %d has size %d, name %d: want %d, %d", a, -u.above[a], u.least[a], size, names[a])
		}
	}
	if u.sets != tops {
		t.Fatalf("%d sets, %d tops", u.sets, tops)
	}
}

func TestKeptIsTheSets(t *testing.T) {
	const n = 200
	seed := uint64(5)
	next := func(n int) int {
		seed = seed*6364136223846793005 + 1442695040888963407
		return int((seed >> 33) % uint64(n))
	}
	for range 10 {
		u, _ := New(n)
		for range n + n/2 {
			u.Join(next(n+2)-1, next(n+2)-1)
			keptIsRight(t, u)
		}
	}
}

// Chains and sets that double are what a tree gets deepest of.
func TestNoMemberIsDeep(t *testing.T) {
	const n = 1 << 12
	up, down, doubled := alone(t, n), alone(t, n), alone(t, n)
	for a := 1; a < n; a++ {
		up.Join(a-1, a)
		down.Join(n-a, n-a-1)
	}
	for w := 1; w < n; w *= 2 {
		for a := 0; a < n; a += 2 * w {
			doubled.Join(a+w-1, a+2*w-1)
			doubled.Join(a+2*w-1, a+w-1)
		}
	}
	for _, u := range []*Union{up, down, doubled} {
		keptIsRight(t, u)
		if u.sets != 1 {
			t.Errorf("%d sets: want 1", u.sets)
		}
	}
}

func alone(t *testing.T, n int) *Union {
	t.Helper()
	u, e := New(n)
	if e != api.OK {
		t.Fatal(e)
	}
	return u
}
