package union_test

import (
	"math"
	"slices"
	"testing"

	"tidewalk/api"
	"tidewalk/union"
)

// plain is a union as the joins that were made, over all of which each answer goes.
type plain struct {
	n     int
	joins [][2]int
}

func (p *plain) member(a int) bool { return a >= 0 && a < p.n }

// set is the members to which joins lead from a, rising; none, if a is no member.
func (p *plain) set(a int) []int {
	if !p.member(a) {
		return nil
	}
	in := map[int]bool{a: true}
	for grown := true; grown; {
		grown = false
		for _, j := range p.joins {
			if in[j[0]] != in[j[1]] {
				in[j[0]], in[j[1]], grown = true, true, true
			}
		}
	}
	var l []int
	for b := range p.n {
		if in[b] {
			l = append(l, b)
		}
	}
	return l
}

func (p *plain) join(a, b int) bool {
	if !p.member(a) || !p.member(b) || slices.Contains(p.set(a), b) {
		return false
	}
	p.joins = append(p.joins, [2]int{a, b})
	return true
}

func made(t *testing.T, n int) *union.Union {
	t.Helper()
	u, e := union.New(n)
	if e != api.OK || u == nil {
		t.Fatalf("New(%d) = %v, %d", n, u, e)
	}
	return u
}

func joins(t *testing.T, u *union.Union, a, b int, want bool) {
	t.Helper()
	if got := u.Join(a, b); got != want {
		t.Fatalf("Join(%d, %d) = %v: want %v", a, b, got, want)
	}
}

func same(t *testing.T, u *union.Union, a, b int, want bool) {
	t.Helper()
	if got := u.Same(a, b); got != want {
		t.Fatalf("Same(%d, %d) = %v: want %v", a, b, got, want)
	}
}

func tells(t *testing.T, u *union.Union, a, name, size int) {
	t.Helper()
	if got := u.Name(a); got != name {
		t.Fatalf("Name(%d) = %d: want %d", a, got, name)
	}
	if got := u.Size(a); got != size {
		t.Fatalf("Size(%d) = %d: want %d", a, got, size)
	}
}

func counts(t *testing.T, u *union.Union, sets, members int) {
	t.Helper()
	if got := u.Sets(); got != sets {
		t.Fatalf("Sets = %d: want %d", got, sets)
	}
	if got := u.Len(); got != members {
		t.Fatalf("Len = %d: want %d", got, members)
	}
}

// like holds all that a union tells against the plain one, of no members, too.
func like(t *testing.T, u *union.Union, p *plain) {
	t.Helper()
	sets := 0
	for a := -1; a <= p.n; a++ {
		l := p.set(a)
		if l == nil {
			tells(t, u, a, -1, 0)
		} else {
			tells(t, u, a, l[0], len(l))
		}
		if len(l) > 0 && l[0] == a {
			sets++
		}
		for b := -1; b <= p.n; b++ {
			_, in := slices.BinarySearch(l, b)
			same(t, u, a, b, in)
		}
	}
	counts(t, u, sets, p.n)
}

// both is a union beside a plain one to which the same is done.
type both struct {
	u *union.Union
	p *plain
}

func pair(t *testing.T, n int) both {
	t.Helper()
	return both{made(t, n), &plain{n: n}}
}

func (x both) join(t *testing.T, a, b int) {
	t.Helper()
	joins(t, x.u, a, b, x.p.join(a, b))
}

// told is all that a union tells of the members from -1 to one behind the last, but for who is in one set with whom, which the names tell.
func told(u *union.Union) []int {
	l := []int{u.Sets(), u.Len()}
	for a := -1; a <= u.Len(); a++ {
		l = append(l, u.Name(a), u.Size(a))
	}
	return l
}

// odd are numbers that are no members of a union of n, some of which have the low bits of one.
func odd(n int) []int {
	return []int{-1, n, -2, n + 1, -n - 1, api.MaxCells, api.MaxCells + 1, -api.MaxCells, math.MaxInt32, 1 << 31, math.MinInt32,
		1 << 32, 1<<32 + 1, 1<<32 + n, -1 << 32, 1 - 1<<32, 1 << 40, 1 << 62, math.MaxInt, math.MaxInt - 1, math.MinInt, math.MinInt + 1}
}

// shaken are numbers from all over, the same ones for the same seed.
func shaken(seed uint64) func(int) int {
	return func(n int) int {
		seed = seed*6364136223846793005 + 1442695040888963407
		return int((seed >> 33) % uint64(n))
	}
}

// orders are all orders of a list.
func orders[T any](l []T) [][]T {
	if len(l) == 0 {
		return [][]T{nil}
	}
	var all [][]T
	for _, o := range orders(l[1:]) {
		for k := range len(o) + 1 {
			all = append(all, slices.Insert(slices.Clone(o), k, l[0]))
		}
	}
	return all
}
