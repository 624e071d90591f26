package quad

import (
	"lifelodge/api"
	"lifelodge/arena"
	"lifelodge/plane"
)

// nothing is the number of a square without live cells that need not be there yet.
const nothing = -1

// ground is what lives in a square ahead of a change: what a square does that lies so many levels down in it, each time
// in the same corner, with nothing around it. So a wider root need not be made before there is something in it.
type ground struct {
	id, corner, down int
}

// Add is the root with cells alive, all others as they are, of the least level from 2 and from its own on that reaches
// them. It makes nothing but squares that the answer is made of, however many cells there are.
func Add(a *arena.Arena, t, root int, l []api.Cell) (int, api.Errno) {
	tidy, e := plane.Tidy(l)
	if e != api.OK {
		return 0, e
	}
	h := newHand(a, t)
	level := h.level(root, 1, api.MaxLevel)
	if h.e != api.OK {
		return 0, h.e
	}
	box, _ := plane.Bounds(tidy)
	wide := max(level, leastLevel(box))
	var parts [4]ground
	for i, kid := range h.kids(root) {
		// A quarter's corner in the middle of the whole lies opposite.
		parts[i] = ground{id: kid, corner: 3 - i, down: wide - level}
	}
	return h.answer(h.lit(parts, tidy, wide, -half(wide), -half(wide)))
}

// lit is the square of a level from 1 on, whose north-west corner is at x, y, of what its quarters hold and of cells.
func (h *hand) lit(parts [4]ground, l []api.Cell, level, x, y int) int {
	var q [4]int
	for i, cells := range quarters(l, x+half(level), y+half(level)) {
		dx, dy := corner(i, level)
		q[i] = h.square(parts[i], cells, level-1, x+dx, y+dy)
	}
	return h.join(q)
}

// square is likewise that of what it holds itself, from level 0 on.
func (h *hand) square(g ground, l []api.Cell, level, x, y int) int {
	switch {
	case h.e != api.OK:
		return api.Dead
	case len(l) == 0 && g.id == nothing:
		return h.empty(level)
	case len(l) == 0 && g.down == 0:
		return g.id
	case level == 0:
		return api.Alive
	}
	return h.lit(h.below(g), l, level, x, y)
}

// below is what the quarters of a square hold.
func (h *hand) below(g ground) [4]ground {
	parts := [4]ground{bare(), bare(), bare(), bare()}
	switch {
	case g.down > 0:
		parts[g.corner] = ground{id: g.id, corner: g.corner, down: g.down - 1}
	case g.id != nothing:
		for i, kid := range h.kids(g.id) {
			parts[i] = ground{id: kid}
		}
	}
	return parts
}

func bare() ground { return ground{id: nothing} }
