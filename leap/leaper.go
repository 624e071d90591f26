package leap

import (
	"lifelodge/api"
	"lifelodge/arena"
	"lifelodge/quad"
	"lifelodge/rule"
)

// leaper finds what squares become by a rule, and makes it for a tenant. It does nothing any more after its first
// error: what it answers then is of no use but to come to an end.
type leaper struct {
	a *arena.Arena
	t int
	r api.Rule
	e api.Errno
}

// leap is a root 2^j steps later, of any level that reaches its cells.
func (l *leaper) leap(root, j int) int {
	l.checkReach(root)
	root = l.peel(root)
	level := l.level(root)
	// Half of the wide root's side, around its middle, is what comes out, and nothing may have gone farther by then.
	wide := max(level+2, j+3)
	for range wide - level {
		root = l.wrap(root)
	}
	return l.next(root, wide, j)
}

// next is the middle of a square, half as wide, 2^j steps later; j is at most level - 2, so that nothing can come into
// the middle from outside.
func (l *leaper) next(id, level, j int) int {
	if l.e != api.OK {
		return api.Dead
	}
	if known, ok := l.a.Recall(l.t, id, l.number(), j); ok {
		return known
	}
	found := l.find(id, level, j)
	l.note(id, j, found)
	return found
}

func (l *leaper) find(id, level, j int) int {
	parts := l.grid(id)
	if level == leastRoot {
		return l.step(parts)
	}
	// At full speed the nine squares within go half of the way, and the four that these make the other half.
	full := j == level-2
	if full {
		j--
	}
	var nine [3][3]int
	for y := range nine {
		for x := range nine[y] {
			nine[y][x] = l.next(l.join(window(parts[y][:], parts[y+1][:], x)), level-1, j)
		}
	}
	var q [4]int
	for i := range q {
		part := window(nine[i/2][:], nine[i/2+1][:], i%2)
		if full {
			q[i] = l.next(l.join(part), level-1, j)
		} else {
			q[i] = l.middle(part)
		}
	}
	return l.join(q)
}

// step is the four cells in the middle of sixteen, one step later.
func (l *leaper) step(cells [4][4]int) int {
	var q [4]int
	for i := range q {
		y, x := 1+i/2, 1+i%2
		// Dead is 0 and Alive is 1: their sum is how many live.
		n := -cells[y][x]
		for _, row := range cells[y-1 : y+2] {
			n += row[x-1] + row[x] + row[x+1]
		}
		q[i] = api.Dead
		if rule.Lives(l.r, cells[y][x] == api.Alive, n) {
			q[i] = api.Alive
		}
	}
	return l.join(q)
}

// grid is the quarters of a square's quarters, row by row.
func (l *leaper) grid(id int) [4][4]int {
	var parts [4][4]int
	for i, kid := range l.kids(id) {
		for k, part := range l.kids(kid) {
			parts[i/2*2+k/2][i%2*2+k%2] = part
		}
	}
	return parts
}

// window is the four squares at the places x and x + 1 of two rows.
func window(above, below []int, x int) [4]int {
	return [4]int{above[x], above[x+1], below[x], below[x+1]}
}

// middle is the square in the middle of four, as large as one of them.
func (l *leaper) middle(q [4]int) int {
	for i := range q {
		// A quarter's corner in the middle of the whole lies opposite.
		q[i] = l.kids(q[i])[3-i]
	}
	return l.join(q)
}

// checkReach refuses a root with live cells that no root that can leap reaches. It does so ahead of making anything, so
// that a tenant that may have too little is told of this, too.
func (l *leaper) checkReach(root int) {
	if l.e != api.OK {
		return
	}
	b, _, e := quad.Box(l.a, l.t, root)
	l.e = e
	const far = 1 << (mostRoot - 1)
	if l.e == api.OK && (min(b.X0, b.Y0) < -far || max(b.X1, b.Y1) >= far) {
		l.e = api.ErrLevel
	}
}

func (l *leaper) peel(root int) int {
	if l.e != api.OK {
		return api.Dead
	}
	root, l.e = quad.Peel(l.a, l.t, root)
	return root
}

func (l *leaper) wrap(root int) int {
	if l.e != api.OK {
		return api.Dead
	}
	root, l.e = quad.Wrap(l.a, l.t, root)
	return root
}

func (l *leaper) level(root int) int {
	if l.e != api.OK {
		return leastRoot
	}
	level, e := l.a.Level(l.t, root)
	l.e = e
	return level
}

func (l *leaper) join(q [4]int) int {
	if l.e != api.OK {
		return api.Dead
	}
	id, e := l.a.Join(l.t, q)
	l.e = e
	return id
}

func (l *leaper) kids(id int) [4]int {
	if l.e != api.OK {
		return [4]int{}
	}
	q, e := l.a.Kids(l.t, id)
	l.e = e
	return q
}

func (l *leaper) note(id, j, value int) {
	if l.e == api.OK {
		l.e = l.a.Note(l.t, id, l.number(), j, value)
	}
}

// number is the rule's in notes: Live has nine bits, Born stands above them. It is below 0: whoever notes something
// else in the arena will hardly take such numbers, and so neither is taken for the other.
func (l *leaper) number() int {
	return ^(l.r.Born<<9 | l.r.Live)
}
