package treap

// node is an item as a node of its sequence's tree: what stands left of it is ahead of it in the sequence, what stands right of it is behind, and none of that has a higher priority.
//
// Trees are gone through by loops alone: whoever knows the priorities can make a tree as deep as it is great, and calls that are nested so deep would overrun the stack.
type node struct {
	own Value
	// sum and size are those of the whole tree below this node, itself among it.
	sum             Value
	size            int
	priority        uint32
	left, right, up int32
}

// A nil forest has no item, so this also keeps the others from reaching into one.
func (f *Forest) at(i int32) *node {
	if f == nil {
		return nil
	}
	return f.nodes.At(i)
}

// size and sum take 0 for a tree of none.
func (f *Forest) size(i int32) int {
	if i == 0 {
		return 0
	}
	return f.at(i).size
}

func (f *Forest) sum(i int32) Value {
	if i == 0 {
		return Value{Least: MaxLeast}
	}
	return f.at(i).sum
}

// together is the sum of two sums. An item's own value, whose Least may be above MaxLeast, is summed up with that of none too, which keeps the limit.
func together(a, b Value) Value {
	return Value{
		Count: a.Count + b.Count,
		Sum:   a.Sum + b.Sum,
		Least: min(a.Least, b.Least),
		Mark:  a.Mark | b.Mark,
	}
}

// reckon sets what a node tells of the tree below it, from what the nodes right below it tell.
func (f *Forest) reckon(i int32) {
	n := f.at(i)
	n.size = f.size(n.left) + 1 + f.size(n.right)
	n.sum = together(together(f.sum(n.left), n.own), f.sum(n.right))
}

// root is 0, if there is no item i.
func (f *Forest) root(i int32) int32 {
	n := f.at(i)
	if n == nil {
		return 0
	}
	for n.up != 0 {
		i = n.up
		n = f.at(i)
	}
	return i
}

// leftmost is the first item of the tree below i; 0 of none.
func (f *Forest) leftmost(i int32) int32 {
	if i == 0 {
		return 0
	}
	for n := f.at(i); n.left != 0; n = f.at(i) {
		i = n.left
	}
	return i
}

func (f *Forest) rightmost(i int32) int32 {
	for n := f.at(i); n.right != 0; n = f.at(i) {
		i = n.right
	}
	return i
}

// hang sets what a tree hangs below; 0 is below nothing.
func (f *Forest) hang(i, up int32) {
	if i != 0 {
		f.at(i).up = up
	}
}

func (f *Forest) setLeft(i, left int32) {
	f.at(i).left = left
	f.hang(left, i)
	f.reckon(i)
}

func (f *Forest) setRight(i, right int32) {
	f.at(i).right = right
	f.hang(right, i)
	f.reckon(i)
}

// unzip parts a tree in two: what stands ahead of i, and the rest. From i up to the root each node goes to the one or the other, on top of what is there already, since priorities rise that way.
func (f *Forest) unzip(i int32) {
	ahead, behind := f.at(i).left, int32(0)
	// What stands left of i goes, as if the way up came from there.
	fromLeft := true
	for k := i; k != 0; {
		up := f.at(k).up
		if fromLeft {
			f.setLeft(k, behind)
			behind = k
		} else {
			f.setRight(k, ahead)
			ahead = k
		}
		fromLeft = up != 0 && f.at(up).left == k
		k = up
	}
	f.hang(ahead, 0)
	f.hang(behind, 0)
}

// zip makes one tree of two, from the last item of the one and the first item of the other up to both roots: the node with the lower priority of the two is next, on top of what is there already. The last one was a root, and hangs below nothing still.
func (f *Forest) zip(last, first int32) {
	tree := int32(0)
	for last != 0 || first != 0 {
		if f.lower(last, first) {
			up := f.at(last).up
			f.setRight(last, tree)
			tree, last = last, up
		} else {
			up := f.at(first).up
			f.setLeft(first, tree)
			tree, first = first, up
		}
	}
}

// lower says which of two is next in a zip: 0 is beyond a root, and never next.
func (f *Forest) lower(last, first int32) bool {
	if last == 0 || first == 0 {
		return last != 0
	}
	return f.at(last).priority < f.at(first).priority
}
