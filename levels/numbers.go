package levels

import (
	"container/heap"
	"sort"
)

// numbers gives out the least number from 1 on that nobody has.
type numbers struct {
	// last is the greatest number that was given out.
	last int
	// back has those that came back.
	back least
}

func (n *numbers) take() int {
	if n.back.Len() > 0 {
		return heap.Pop(&n.back).(int)
	}
	n.last++
	return n.last
}

func (n *numbers) free(k int) { heap.Push(&n.back, k) }

// many is how many are given out.
func (n *numbers) many() int { return n.last - n.back.Len() }

// least is a heap whose least number comes first.
type least struct{ sort.IntSlice }

// Push is for package heap.
func (l *least) Push(x any) { l.IntSlice = append(l.IntSlice, x.(int)) }

// Pop is for package heap.
func (l *least) Pop() any {
	end := l.Len() - 1
	x := l.IntSlice[end]
	l.IntSlice = l.IntSlice[:end]
	return x
}
