// Package place is layer 1: see shared/doc/01-place.md.
package place

import (
	"iter"

	"tidewalk/api"
)

// Right says whether a size may be.
func Right(z api.Size) bool {
	// Both sides are held against their limit first: the product of two sides that may be can't wrap round.
	return rightSide(z.W) && rightSide(z.H) && z.W*z.H <= api.MaxCells
}

func rightSide(n int) bool { return 1 <= n && n <= api.MaxSide }

// Cells is how many cells a size has.
func Cells(z api.Size) int {
	if !Right(z) {
		return 0
	}
	return z.W * z.H
}

// Index is a cell's number.
func Index(z api.Size, x, y int) (cell int, ok bool) {
	if !Right(z) || !below(x, z.W) || !below(y, z.H) {
		return 0, false
	}
	return y*z.W + x, true
}

// At is a cell's column and row.
func At(z api.Size, cell int) (x, y int, ok bool) {
	// A size that may not be has 0 cells, so this turns away every number there too.
	if !below(cell, Cells(z)) {
		return 0, 0, false
	}
	return cell % z.W, cell / z.W, true
}

func below(n, end int) bool { return 0 <= n && n < end }

// Near are the cells beside one, by number.
func Near(z api.Size, cell int) iter.Seq[int] {
	return func(yield func(int) bool) {
		x, y, ok := At(z, cell)
		if !ok {
			return
		}
		// The row above, the own row, the row below: in this order the numbers rise.
		if y > 0 && !yield(cell-z.W) {
			return
		}
		if x > 0 && !yield(cell-1) {
			return
		}
		if x < z.W-1 && !yield(cell+1) {
			return
		}
		if y < z.H-1 {
			yield(cell + z.W)
		}
	}
}

// Beside says whether two are cells, beside one another.
func Beside(z api.Size, a, b int) bool {
	for c := range Near(z, a) {
		if c == b {
			return true
		}
	}
	return false
}

// Away is how far two cells are.
func Away(z api.Size, a, b int) int {
	ax, ay, aok := At(z, a)
	bx, by, bok := At(z, b)
	if !aok || !bok {
		return -1
	}
	return apart(ax, bx) + apart(ay, by)
}

func apart(m, n int) int { return max(m, n) - min(m, n) }
