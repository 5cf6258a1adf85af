package treap

import (
	"testing"

	"tidewalk/draws"
)

// shaped holds the tree below i against what a node must keep to, and is how many nodes it has, and how deep it is.
func shaped(t *testing.T, f *Forest, i, up int32) (many, deep int) {
	t.Helper()
	if i == 0 {
		return 0, 0
	}
	n := f.at(i)
	if n == nil {
		t.Fatalf("%d is in a tree, and no item", i)
	}
	if n.up != up {
		t.Fatalf("%d hangs below %d: want %d", i, n.up, up)
	}
	if up != 0 && n.priority > f.at(up).priority {
		t.Fatalf("%d has a higher priority than %d above it", i, up)
	}
	left, leftDeep := shaped(t, f, n.left, i)
	right, rightDeep := shaped(t, f, n.right, i)
	if n.size != left+1+right {
		t.Fatalf("%d tells of %d nodes below it: want %d", i, n.size, left+1+right)
	}
	return n.size, 1 + max(leftDeep, rightDeep)
}

// Nil draws are like those of an empty list: what they draw is not to be seen from outside, but for the time that calls take.
func TestPrioritiesAreDrawn(t *testing.T) {
	some, _ := draws.New([]uint32{4, 5, 6})
	like, _ := draws.New([]uint32{4, 5, 6})
	for _, c := range []struct {
		f *Forest
		d *draws.Draws
	}{{New(nil), new(draws.Draws)}, {new(Forest), new(draws.Draws)}, {New(new(draws.Draws)), new(draws.Draws)}, {New(some), like}} {
		for range 40 {
			i := c.f.Make(Value{})
			if p, want := c.f.at(i).priority, c.d.Next(); p != want {
				t.Fatalf("the priority of %d is %08x: want %08x", i, p, want)
			}
		}
		c.f.Free(7)
		c.f.Make(Value{})
		if p, want := c.f.at(7).priority, c.d.Next(); p != want {
			t.Fatalf("the priority of 7 is %08x when it is made again: want %08x", p, want)
		}
	}
}

func TestTreesKeepTheirShape(t *testing.T) {
	const many = 2000
	f := New(nil)
	seed := uint64(1)
	next := func(n int) int32 {
		seed = seed*6364136223846793005 + 1442695040888963407
		return int32((seed>>33)%uint64(n)) + 1
	}
	for range many {
		f.Make(Value{})
	}
	for step := range 40000 {
		if next(3) == 1 {
			f.Cut(next(many))
		} else {
			f.Join(next(many), next(many))
		}
		if step%4000 == 0 {
			all := 0
			for i := range int32(many) {
				if f.at(i+1).up == 0 {
					n, _ := shaped(t, f, i+1, 0)
					all += n
				}
			}
			if all != many {
				t.Fatalf("%d items in trees: want %d", all, many)
			}
		}
	}
}

// Without a list, too, trees of items that were made one behind the other are not deep.
func TestTreesAreNotDeep(t *testing.T) {
	const many = 100000
	for _, f := range []*Forest{New(nil), new(Forest)} {
		for i := range int32(many) {
			f.Make(Value{})
			f.Join(i, i+1)
		}
		if n, deep := shaped(t, f, f.root(1), 0); n != many || deep > 80 {
			t.Fatalf("%d nodes, %d deep", n, deep)
		}
	}
}
