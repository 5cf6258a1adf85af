package forest

import "testing"

// What is kept is the numbers that there are, and no more: each stands in both maps, and what is gone is gone from both.
func TestNamesAreThoseThatThereAre(t *testing.T) {
	seed := uint64(3)
	next := func(n int) int {
		seed = seed*6364136223846793005 + 1442695040888963407
		return int((seed >> 33) % uint64(n))
	}
	f := New(nil)
	for range 5000 {
		v, e := next(40)-20, next(40)-1
		switch next(5) {
		case 0:
			f.Add(v, 1, 1)
		case 1, 2:
			f.Link(e, v, next(40)-20)
		case 3:
			f.Cut(e)
		case 4:
			f.Drop(v)
		}
		namesAreRight(t, f.vertices, f.Has)
		namesAreRight(t, f.edges, f.HasEdge)
	}
	for e := range 40 {
		f.Cut(e)
	}
	for v := range 40 {
		f.Drop(v - 20)
	}
	if len(f.vertices.inner)+len(f.vertices.own)+len(f.edges.inner)+len(f.edges.own) != 0 {
		t.Errorf("vertices %v, edges %v when all is gone", f.vertices, f.edges)
	}
}

func namesAreRight(t *testing.T, n names, has func(int) bool) {
	t.Helper()
	many := 0
	for own := -25; own <= 45; own++ {
		if !has(own) {
			continue
		}
		many++
		if inner := n.inner[own]; inner < 1 || n.own[inner] != own {
			t.Fatalf("%d is %d in the trees, which is %d", own, inner, n.own[inner])
		}
	}
	if len(n.inner) != many || len(n.own) != many {
		t.Fatalf("%v, %v: want %d of each", n.inner, n.own, many)
	}
}
