package quad

import (
	"lifelodge/api"
	"lifelodge/arena"
	"lifelodge/plane"
)

// tooMany stands for every count from it on: four of them in one sum would wrap round.
const tooMany = 1 << 62

// hand makes and opens squares for a tenant. It keeps the first error, and does nothing after it: what it answers then
// is Dead, and of no use but to come to an end.
type hand struct {
	a       *arena.Arena
	t       int
	e       api.Errno
	empties []int // by their levels, as far as they were needed
}

func newHand(a *arena.Arena, t int) hand {
	return hand{a: a, t: t, empties: []int{api.Dead}}
}

func (h *hand) keep(e api.Errno) {
	if h.e == api.OK {
		h.e = e
	}
}

// answer is a number, if nothing was refused on the way to it.
func (h *hand) answer(id int) (int, api.Errno) {
	if h.e != api.OK {
		return 0, h.e
	}
	return id, api.OK
}

// level is the level of a root that must be of a level from least to most.
func (h *hand) level(root, least, most int) int {
	n, e := h.a.Level(h.t, root)
	h.keep(e)
	if n < least || n > most {
		h.keep(api.ErrLevel)
	}
	return n
}

func (h *hand) join(q [4]int) int {
	if h.e != api.OK {
		return api.Dead
	}
	id, e := h.a.Join(h.t, q)
	h.keep(e)
	return id
}

func (h *hand) kids(id int) [4]int {
	if h.e != api.OK {
		return four(api.Dead)
	}
	q, e := h.a.Kids(h.t, id)
	h.keep(e)
	return q
}

func (h *hand) empty(level int) int {
	for n := len(h.empties); n <= level; n++ {
		h.empties = append(h.empties, h.join(four(h.empties[n-1])))
	}
	return h.empties[level]
}

// tally is how many cells live in a square, and the least box around them, as if the square's north-west corner were
// at 0, 0. Without live cells the box is nothing.
type tally struct {
	count int
	box   api.Box
}

// walker is a hand that looks at each different square once: a root may have far more places than can be gone through.
type walker struct {
	hand
	known map[int]tally
}

func newWalker(a *arena.Arena, t int) walker {
	return walker{newHand(a, t), map[int]tally{api.Dead: {}, api.Alive: {count: 1}}}
}

func (w *walker) tally(id, level int) tally {
	if sum, ok := w.known[id]; ok {
		return sum
	}
	var sum tally
	var corners []api.Cell
	for i, kid := range w.kids(id) {
		part := w.tally(kid, level-1)
		if part.count == 0 {
			continue
		}
		sum.count = add(sum.count, part.count)
		x, y := corner(i, level)
		corners = append(corners,
			api.Cell{X: x + part.box.X0, Y: y + part.box.Y0},
			api.Cell{X: x + part.box.X1, Y: y + part.box.Y1})
	}
	sum.box, _ = plane.Bounds(corners)
	w.known[id] = sum
	return sum
}

// box is the least box around the live cells of a root, at their places; false: there are none.
func (w *walker) box(root, level int) (api.Box, bool) {
	sum := w.tally(root, level)
	if sum.count == 0 {
		return api.Box{}, false
	}
	b, far := sum.box, half(level)
	return api.Box{X0: b.X0 - far, Y0: b.Y0 - far, X1: b.X1 - far, Y1: b.Y1 - far}, true
}

// cells is the live cells of a root, quarter by quarter; there are few enough of them.
func (w *walker) cells(root, level int) []api.Cell {
	var l []api.Cell
	var walk func(id, level, x, y int)
	walk = func(id, level, x, y int) {
		if w.tally(id, level).count == 0 {
			return
		}
		if level == 0 {
			l = append(l, api.Cell{X: x, Y: y})
			return
		}
		for i, kid := range w.kids(id) {
			dx, dy := corner(i, level)
			walk(kid, level-1, x+dx, y+dy)
		}
	}
	walk(root, level, -half(level), -half(level))
	return l
}

// half is half the side of a square of a level from 1 on.
func half(level int) int { return 1 << (level - 1) }

// corner is how far from a square's north-west corner that of its i-th quarter is.
func corner(i, level int) (x, y int) {
	return i % 2 * half(level), i / 2 * half(level)
}

func four(id int) [4]int { return [4]int{id, id, id, id} }

func add(n, m int) int {
	if n > tooMany-m {
		return tooMany
	}
	return n + m
}

// reaches tells whether a root of a level has all places of a box.
func reaches(level int, b api.Box) bool {
	far := half(level)
	return b.X0 >= -far && b.Y0 >= -far && b.X1 < far && b.Y1 < far
}

// leastLevel is the least level from 2 on of a root that reaches a box; some root does.
func leastLevel(b api.Box) int {
	n := 2
	for !reaches(n, b) {
		n++
	}
	return n
}
