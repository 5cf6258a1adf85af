package forest

// names holds numbers of this layer against those that the trees gave. The trees number from 1 on, so a number that is in neither map is told as 0, which is none of theirs.
type names struct {
	// inner has for an own number that of the trees, own the other way about; both are nil till the first one is put in.
	inner, own map[int]int
}

func (n *names) put(own, inner int) {
	if n.inner == nil {
		n.inner, n.own = map[int]int{}, map[int]int{}
	}
	n.inner[own] = inner
	n.own[inner] = own
}

func (n *names) take(own int) {
	delete(n.own, n.inner[own])
	delete(n.inner, own)
}
