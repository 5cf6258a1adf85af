package union_test

import (
	"math"
	"slices"
	"testing"

	"tidewalk/api"
	"tidewalk/union"
)

// P11.1

func TestNewOfWrongNumbers(t *testing.T) {
	for _, n := range []int{-1, api.MaxCells + 1, -2, api.MaxCells + 2, -api.MaxCells, 2 * api.MaxCells, math.MaxInt32, 1 << 31, math.MinInt32,
		1 << 32, 1<<32 + 5, -1 << 32, 5 - 1<<32, 1 << 40, 1 << 62, math.MaxInt, math.MinInt, math.MinInt + 1} {
		if u, e := union.New(n); u != nil || e != api.ErrArg {
			t.Errorf("New(%d) = %v, %d: want nil, ErrArg", n, u, e)
		}
	}
}

func TestNewIsOfMembersAlone(t *testing.T) {
	for _, n := range []int{0, 1, 2, 3, 4, 5, 8, 31, 32, 33, 100} {
		x := pair(t, n)
		like(t, x.u, x.p)
		for a := range n {
			tells(t, x.u, a, a, 1)
			for b := range n {
				same(t, x.u, a, b, a == b)
			}
		}
		counts(t, x.u, n, n)
	}
}

func TestJoinMakesOneSetOfTwo(t *testing.T) {
	x := pair(t, 9)
	for _, j := range [][2]int{{4, 7}, {1, 2}, {8, 1}, {7, 2}, {0, 6}, {3, 8}, {6, 3}, {5, 0}} {
		joins(t, x.u, j[0], j[1], true)
		x.p.joins = append(x.p.joins, j)
		like(t, x.u, x.p)
	}
	counts(t, x.u, 1, 9)
}

// Members of one set are joined directly, by others, and by way of the set's name or not.
func TestJoinOfOneSetAgain(t *testing.T) {
	x := pair(t, 8)
	for _, j := range [][2]int{{5, 2}, {2, 6}, {6, 7}, {0, 1}} {
		x.join(t, j[0], j[1])
	}
	before := told(x.u)
	for _, a := range []int{2, 5, 6, 7} {
		for _, b := range []int{2, 5, 6, 7} {
			joins(t, x.u, a, b, false)
			joins(t, x.u, b, a, false)
		}
	}
	joins(t, x.u, 0, 1, false)
	joins(t, x.u, 1, 0, false)
	if after := told(x.u); !slices.Equal(before, after) {
		t.Errorf("joins of one set turned %v into %v", before, after)
	}
	like(t, x.u, x.p)
}

func TestJoinOfAMemberWithItself(t *testing.T) {
	x := pair(t, 5)
	for range 2 {
		for a := range 5 {
			joins(t, x.u, a, a, false)
			like(t, x.u, x.p)
		}
		x.join(t, 3, 1)
		x.join(t, 1, 4)
	}
}

func TestJoinOfNoMembers(t *testing.T) {
	for _, n := range []int{0, 1, 2, 5} {
		x := pair(t, n)
		x.join(t, n-1, 0)
		for _, a := range odd(n) {
			for _, b := range odd(n) {
				joins(t, x.u, a, b, false)
			}
			for b := range n {
				joins(t, x.u, a, b, false)
				joins(t, x.u, b, a, false)
			}
		}
		like(t, x.u, x.p)
	}
}

// P11.2

// A set of the elder name and one of the younger are joined either way, the greater one being the one or the other.
func TestNameIsTheLeastMember(t *testing.T) {
	for _, elder := range []int{1, 2, 3, 5} {
		for _, younger := range []int{1, 2, 3, 5} {
			for _, turned := range []bool{false, true} {
				x := pair(t, 12)
				// The elder set is 1 and what is behind it, the younger one 6 and what is behind that.
				for k := 1; k < elder; k++ {
					x.join(t, 1+k, k)
				}
				for k := 1; k < younger; k++ {
					x.join(t, 6+k, 5+k)
				}
				tells(t, x.u, elder, 1, elder)
				tells(t, x.u, 5+younger, 6, younger)
				a, b := elder, 5+younger
				if turned {
					a, b = b, a
				}
				joins(t, x.u, a, b, true)
				x.p.joins = append(x.p.joins, [2]int{a, b})
				for k := range elder {
					tells(t, x.u, 1+k, 1, elder+younger)
				}
				for k := range younger {
					tells(t, x.u, 6+k, 1, elder+younger)
				}
				like(t, x.u, x.p)
			}
		}
	}
}

// The name goes down from join to join, or stays, wherever the least member comes in.
func TestNameComesDown(t *testing.T) {
	u := made(t, 64)
	for a := 63; a > 0; a-- {
		joins(t, u, 63, a-1, true)
		tells(t, u, 63, a-1, 65-a)
		tells(t, u, a-1, a-1, 65-a)
	}
	u = made(t, 64)
	for a := range 63 {
		joins(t, u, a+1, 0, true)
		tells(t, u, a+1, 0, a+2)
		tells(t, u, 0, 0, a+2)
	}
}

func TestNoMembers(t *testing.T) {
	for _, n := range []int{0, 1, 2, 7} {
		u := made(t, n)
		for a := 1; a < n; a++ {
			joins(t, u, a-1, a, true)
		}
		for _, a := range odd(n) {
			tells(t, u, a, -1, 0)
			same(t, u, a, a, false)
			for b := range n {
				same(t, u, a, b, false)
				same(t, u, b, a, false)
			}
			for _, b := range odd(n) {
				same(t, u, a, b, false)
			}
		}
		counts(t, u, min(n, 1), n)
	}
}

// hasNoMembers holds what a union answers that has no members.
func hasNoMembers(t *testing.T, u *union.Union) {
	t.Helper()
	for range 2 {
		for _, a := range append(odd(1), 0, 2, 3) {
			for _, b := range append(odd(1), 0, 2, 3) {
				joins(t, u, a, b, false)
				same(t, u, a, b, false)
			}
			tells(t, u, a, -1, 0)
		}
		counts(t, u, 0, 0)
	}
}

func TestNilUnion(t *testing.T) { hasNoMembers(t, nil) }

func TestUnionThatNewDidNotMake(t *testing.T) {
	hasNoMembers(t, &union.Union{})
}

func TestUnionOfNone(t *testing.T) { hasNoMembers(t, made(t, 0)) }

func TestUnionOfOne(t *testing.T) {
	u := made(t, 1)
	for range 2 {
		joins(t, u, 0, 0, false)
		joins(t, u, 0, 1, false)
		same(t, u, 0, 0, true)
		tells(t, u, 0, 0, 1)
		counts(t, u, 1, 1)
	}
}

func TestUnionOfTwo(t *testing.T) {
	for _, j := range [][2]int{{0, 1}, {1, 0}} {
		u := made(t, 2)
		same(t, u, 0, 1, false)
		counts(t, u, 2, 2)
		joins(t, u, j[0], j[1], true)
		for range 2 {
			joins(t, u, 0, 1, false)
			joins(t, u, 1, 0, false)
			same(t, u, 0, 1, true)
			same(t, u, 1, 0, true)
			tells(t, u, 0, 0, 2)
			tells(t, u, 1, 0, 2)
			counts(t, u, 1, 2)
		}
	}
}

// Asking between joins turns no later answer.
func TestTellingChangesNothing(t *testing.T) {
	next := shaken(4)
	asked, left := made(t, 60), made(t, 60)
	for range 200 {
		a, b := next(62)-1, next(62)-1
		for range 3 {
			c, d := next(62)-1, next(62)-1
			asked.Same(c, d)
			asked.Name(c)
			asked.Size(d)
			asked.Sets()
			asked.Len()
		}
		joins(t, asked, a, b, left.Join(a, b))
	}
	if !slices.Equal(told(asked), told(left)) {
		t.Errorf("asked: %v, left alone: %v", told(asked), told(left))
	}
}

// P11.3

func TestHeldAgainstAPlainAnswer(t *testing.T) {
	next := shaken(1)
	for _, n := range []int{2, 3, 5, 8, 13, 21, 40} {
		for range 8 {
			x := pair(t, n)
			for range n + n/2 {
				x.join(t, next(n+2)-1, next(n+2)-1)
				like(t, x.u, x.p)
			}
		}
	}
}

// Sets of about the same size are joined here, where joins of any two members soon have one great set that takes in others.
func TestSetsOfLikeSizes(t *testing.T) {
	next := shaken(2)
	for range 20 {
		x := pair(t, 32)
		for w := 1; w < 32; w *= 2 {
			for a := 0; a < 32; a += 2 * w {
				b, c := a+next(w), a+w+next(w)
				if next(2) == 0 {
					b, c = c, b
				}
				joins(t, x.u, b, c, true)
				x.p.joins = append(x.p.joins, [2]int{b, c})
			}
			like(t, x.u, x.p)
		}
	}
}

// All lists of three joins, of few members and of none.
func TestAllJoinsOfFewMembers(t *testing.T) {
	for _, n := range []int{1, 2, 3, 4} {
		var all [][2]int
		for a := range n + 1 {
			for b := -1; b < n; b++ {
				all = append(all, [2]int{a, b})
			}
		}
		for _, first := range all {
			for _, second := range all {
				for _, third := range all {
					x := pair(t, n)
					x.join(t, first[0], first[1])
					x.join(t, second[0], second[1])
					x.join(t, third[0], third[1])
					like(t, x.u, x.p)
				}
			}
		}
	}
}

// The same joins come to the same sets, in all orders, each join being made either way about.
func TestJoinsInAllOrders(t *testing.T) {
	lists := [][][2]int{
		{{3, 4}, {4, 1}, {3, 1}},
		{{0, 1}, {1, 2}, {2, 3}, {3, 4}},
		{{5, 0}, {5, 1}, {5, 2}, {5, 3}},
		{{0, 5}, {1, 4}, {5, 4}, {2, 2}, {1, 0}},
		{{6, 2}, {4, 0}, {2, 4}, {5, 1}, {3, 5}},
	}
	for _, l := range lists {
		p := &plain{n: 7, joins: l}
		for _, order := range orders(l) {
			for turns := range 1 << len(order) {
				u := made(t, 7)
				for k, j := range order {
					u.Join(j[turns>>k&1], j[1-turns>>k&1])
				}
				like(t, u, p)
			}
		}
	}
}

// Of many joins, too, the order turns nothing.
func TestManyJoinsInManyOrders(t *testing.T) {
	const n = 3000
	next := shaken(7)
	var l [][2]int
	for range 2400 {
		l = append(l, [2]int{next(n), next(n)})
	}
	var want []int
	for round := range 12 {
		u := made(t, n)
		for _, j := range l {
			u.Join(j[0], j[1])
		}
		if round == 0 {
			want = told(u)
			likeWhole(t, u, n, l)
		}
		if got := told(u); !slices.Equal(got, want) {
			t.Fatalf("round %d tells otherwise than the first one", round)
		}
		for k := range l {
			o := k + next(len(l)-k)
			l[k], l[o] = l[o], l[k]
			if next(2) == 0 {
				l[k][0], l[k][1] = l[k][1], l[k][0]
			}
		}
	}
}

// likeWhole holds what a union tells against all joins at once: the least name goes over the joins till no member's is another one's elder.
func likeWhole(t *testing.T, u *union.Union, n int, l [][2]int) {
	t.Helper()
	names, sizes, sets := make([]int, n), make([]int, n), 0
	for a := range names {
		names[a] = a
	}
	for grown := true; grown; {
		grown = false
		for _, j := range l {
			if names[j[0]] != names[j[1]] {
				names[j[0]] = min(names[j[0]], names[j[1]])
				names[j[1]], grown = names[j[0]], true
			}
		}
	}
	for a, name := range names {
		sizes[name]++
		if name == a {
			sets++
		}
	}
	for a, name := range names {
		tells(t, u, a, name, sizes[name])
		same(t, u, a, name, true)
	}
	counts(t, u, sets, n)
}

// sum is the sizes of all sets together, each set told once.
func sum(u *union.Union) (size, sets int) {
	for a := range u.Len() {
		if u.Name(a) == a {
			size, sets = size+u.Size(a), sets+1
		}
	}
	return size, sets
}

func TestEachJoinLeavesOneSetLess(t *testing.T) {
	const n = 120
	next := shaken(9)
	u := made(t, n)
	sets := n
	for range 900 {
		a, b := next(n+2)-1, next(n+2)-1
		two := a >= 0 && a < n && b >= 0 && b < n && !u.Same(a, b)
		joins(t, u, a, b, two)
		if two {
			sets--
		}
		counts(t, u, sets, n)
		if size, many := sum(u); size != n || many != sets {
			t.Fatalf("%d members in %d sets: want %d in %d", size, many, n, sets)
		}
	}
	if sets != 1 {
		t.Fatalf("%d sets are left: the joins are too few", sets)
	}
}

// chains are joins that make one set of all of n, in orders in which sets might get deep.
func chains(n int) map[string][][2]int {
	l := map[string][][2]int{}
	for a := 1; a < n; a++ {
		b := n - a
		l["up"] = append(l["up"], [2]int{a - 1, a})
		l["up, turned"] = append(l["up, turned"], [2]int{a, a - 1})
		l["down"] = append(l["down"], [2]int{b - 1, b})
		l["down, turned"] = append(l["down, turned"], [2]int{b, b - 1})
		l["to the first"] = append(l["to the first"], [2]int{a, 0})
		l["from the first"] = append(l["from the first"], [2]int{0, b})
		l["to the last"] = append(l["to the last"], [2]int{b - 1, n - 1})
		l["from the last"] = append(l["from the last"], [2]int{n - 1, a - 1})
	}
	for w := 1; w < n; w *= 2 {
		for a := 0; a+w < n; a += 2 * w {
			l["by halves"] = append(l["by halves"], [2]int{a, a + w})
			l["by halves, turned"] = append(l["by halves, turned"], [2]int{a + w, a})
			l["by halves, at the ends"] = append(l["by halves, at the ends"], [2]int{min(a+2*w, n) - 1, a + w - 1})
		}
	}
	return l
}

func TestLongChains(t *testing.T) {
	for _, n := range []int{2, 3, 7, 64, 65, 1 << 16} {
		for name, l := range chains(n) {
			u := made(t, n)
			for k, j := range l {
				if !u.Join(j[0], j[1]) || u.Sets() != n-k-1 || !u.Same(j[1], j[0]) {
					t.Fatalf("%d members, %s: the join %d of %v is not made", n, name, k, j)
				}
			}
			if u.Sets() != 1 || u.Len() != n {
				t.Fatalf("%d members, %s: %d sets, %d members", n, name, u.Sets(), u.Len())
			}
			for a := range n {
				if u.Name(a) != 0 || u.Size(a) != n || !u.Same(a, n-1) || u.Join(a, n-1-a) {
					t.Fatalf("%d members, %s: Name(%d) = %d, Size = %d", n, name, a, u.Name(a), u.Size(a))
				}
			}
		}
	}
}

// While a chain grows, what is ahead of it is alone.
func TestChainsOnTheWay(t *testing.T) {
	const n = 2000
	up, down := made(t, n), made(t, n)
	for a := 1; a < n; a++ {
		joins(t, up, a, a-1, true)
		tells(t, up, 0, 0, a+1)
		tells(t, up, a, 0, a+1)
		same(t, up, a/2, a, true)
		b := n - 1 - a
		joins(t, down, b, b+1, true)
		tells(t, down, n-1, b, a+1)
		tells(t, down, b, b, a+1)
		if b > 0 {
			tells(t, up, a+1, a+1, 1)
			tells(t, down, b-1, b-1, 1)
			same(t, up, a+1, a, false)
			same(t, down, b-1, n-1, false)
		}
	}
}

// Three long chains, each of members that are three from one another, are joined at their ends.
func TestAsManyMembersAsMayBe(t *testing.T) {
	const n = api.MaxCells
	u := made(t, n)
	counts(t, u, n, n)
	tells(t, u, n-1, n-1, 1)
	tells(t, u, n, -1, 0)
	joins(t, u, n, 0, false)
	for a := n - 4; a >= 0; a-- {
		if !u.Join(a+3, a) {
			t.Fatalf("Join(%d, %d) = false", a+3, a)
		}
	}
	counts(t, u, 3, n)
	sizes := [3]int{(n + 2) / 3, n / 3, n / 3}
	for a := 0; a < n; a += 101 {
		tells(t, u, a, a%3, sizes[a%3])
		same(t, u, a, n-1, a%3 == 0)
	}
	joins(t, u, n-2, n-3, true)
	counts(t, u, 2, n)
	for a := 0; a < n; a += 101 {
		tells(t, u, a, min(a%3, 1), []int{sizes[0], n - sizes[0]}[min(a%3, 1)])
	}
	joins(t, u, 2, n-1, true)
	counts(t, u, 1, n)
	for a := range n {
		tells(t, u, a, 0, n)
	}
}

// Chains that grow at their ends, and sets that double, come to as great a set as may be.
func TestGreatUnions(t *testing.T) {
	const n = api.MaxCells
	up, down, doubled := made(t, n), made(t, n), made(t, n)
	for a := 1; a < n; a++ {
		if !up.Join(a-1, a) || !down.Join(n-1-a, n-a) {
			t.Fatalf("the join %d of a chain is not made", a)
		}
	}
	for w := 1; w < n; w *= 2 {
		for a := w; a < n; a += 2 * w {
			if !doubled.Join(a+w-1, a-1) {
				t.Fatalf("Join(%d, %d) = false", a+w-1, a-1)
			}
		}
		tells(t, doubled, n-1, n-2*w, 2*w)
		counts(t, doubled, n/(2*w), n)
	}
	for _, u := range []*union.Union{up, down, doubled} {
		counts(t, u, 1, n)
		for a := range n {
			if u.Name(a) != 0 || u.Size(a) != n || !u.Same(a, n-1-a) {
				t.Fatalf("Name(%d) = %d, Size = %d", a, u.Name(a), u.Size(a))
			}
		}
	}
}

// R3

func TestUnionsKnowNothingOfOneAnother(t *testing.T) {
	a, b := made(t, 50), made(t, 50)
	next := shaken(11)
	for range 60 {
		a.Join(next(50), next(50))
	}
	like(t, b, &plain{n: 50})
	before := told(a)
	for k := range 49 {
		joins(t, b, k, k+1, true)
	}
	if after := told(a); !slices.Equal(before, after) {
		t.Errorf("joins of another union turned %v into %v", before, after)
	}
	like(t, made(t, 50), &plain{n: 50})
}

// Unions that take turns answer as each would alone.
func TestUnionsInTurns(t *testing.T) {
	next := shaken(12)
	var l []both
	for n := range 6 {
		l = append(l, pair(t, 7*n))
	}
	for range 40 {
		for _, x := range l {
			x.join(t, next(40)-1, next(40)-1)
		}
	}
	for _, x := range l {
		like(t, x.u, x.p)
	}
}

func TestExamples(t *testing.T) {
	u := made(t, 5)
	joins(t, u, 3, 4, true)
	joins(t, u, 4, 1, true)
	joins(t, u, 3, 1, false)
	if u.Name(4) != 1 || u.Size(3) != 3 || u.Sets() != 3 || u.Same(0, 1) || u.Name(5) != -1 {
		t.Error(u.Name(4), u.Size(3), u.Sets(), u.Same(0, 1), u.Name(5))
	}
}
