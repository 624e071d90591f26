// Package plane: see ../../shared/doc/01-plane.md.
package plane

import (
	"cmp"
	"slices"

	"lifelodge/api"
)

// Tidy is the cells in their order, each once.
func Tidy(l []api.Cell) ([]api.Cell, api.Errno) {
	if len(l) > api.MaxCells {
		return nil, api.ErrFull
	}
	if slices.ContainsFunc(l, outside) {
		return nil, api.ErrRange
	}
	tidy := slices.Clone(l)
	slices.SortFunc(tidy, order)
	return slices.Compact(tidy), api.OK
}

// Union is the cells of either list.
func Union(a, b []api.Cell) ([]api.Cell, api.Errno) {
	return merge(a, b, func(inA, inB bool) bool { return inA || inB })
}

// Both is the cells of both lists.
func Both(a, b []api.Cell) ([]api.Cell, api.Errno) {
	return merge(a, b, func(inA, inB bool) bool { return inA && inB })
}

// Minus is the cells of the first list that are not in the second one.
func Minus(a, b []api.Cell) ([]api.Cell, api.Errno) {
	return merge(a, b, func(inA, inB bool) bool { return inA && !inB })
}

// Shift is the cells, moved.
func Shift(l []api.Cell, dx, dy int) ([]api.Cell, api.Errno) {
	moved, e := Tidy(l)
	if e != api.OK {
		return nil, e
	}
	// Checked ahead of the sums, so that none of them can wrap round.
	if !nearer(dx, 2*api.MaxCoord) || !nearer(dy, 2*api.MaxCoord) {
		return nil, api.ErrRange
	}
	for i, c := range moved {
		moved[i] = api.Cell{X: c.X + dx, Y: c.Y + dy}
	}
	if slices.ContainsFunc(moved, outside) {
		return nil, api.ErrRange
	}
	// One move for all cells: they are still in their order.
	return moved, api.OK
}

// Bounds is the least box around cells; false: there are none.
func Bounds(l []api.Cell) (api.Box, bool) {
	if len(l) == 0 {
		return api.Box{}, false
	}
	box := api.Box{X0: l[0].X, Y0: l[0].Y, X1: l[0].X, Y1: l[0].Y}
	for _, c := range l[1:] {
		box.X0, box.X1 = min(box.X0, c.X), max(box.X1, c.X)
		box.Y0, box.Y1 = min(box.Y0, c.Y), max(box.Y1, c.Y)
	}
	return box, true
}

// merge tidies both lists and goes through them side by side; keep says, by
// which of the lists a cell is in, whether it is part of the answer.
func merge(a, b []api.Cell, keep func(inA, inB bool) bool) ([]api.Cell, api.Errno) {
	a, e := Tidy(a)
	if e != api.OK {
		return nil, e
	}
	b, e = Tidy(b)
	if e != api.OK {
		return nil, e
	}
	var kept []api.Cell
	for len(a) > 0 || len(b) > 0 {
		c, inA, inB := first(a, b)
		if inA {
			a = a[1:]
		}
		if inB {
			b = b[1:]
		}
		if keep(inA, inB) {
			kept = append(kept, c)
		}
	}
	if len(kept) > api.MaxCells {
		return nil, api.ErrFull
	}
	return kept, api.OK
}

// first is the least cell of two tidy lists that are not both empty, and which
// of them begin with it.
func first(a, b []api.Cell) (c api.Cell, inA, inB bool) {
	switch {
	case len(b) == 0:
		return a[0], true, false
	case len(a) == 0:
		return b[0], false, true
	}
	o := order(a[0], b[0])
	if o > 0 {
		return b[0], false, true
	}
	return a[0], true, o == 0
}

func order(a, b api.Cell) int {
	return cmp.Or(cmp.Compare(a.Y, b.Y), cmp.Compare(a.X, b.X))
}

func outside(c api.Cell) bool {
	return !nearer(c.X, api.MaxCoord) || !nearer(c.Y, api.MaxCoord)
}

// nearer compares with both ends: the size of the least int is no int.
func nearer(n, bound int) bool {
	return -bound < n && n < bound
}
