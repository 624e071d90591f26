package quad_test

import (
	"math/rand"
	"slices"
	"testing"

	"lifelodge/api"
	"lifelodge/arena"
	"lifelodge/quad"
)

// slowTidy puts each cell where it belongs, one by one.
func slowTidy(l []api.Cell) []api.Cell {
	var tidy []api.Cell
	for _, c := range l {
		i := 0
		for i < len(tidy) && (tidy[i].Y < c.Y || tidy[i].Y == c.Y && tidy[i].X < c.X) {
			i++
		}
		if i == len(tidy) || tidy[i] != c {
			tidy = slices.Insert(tidy, i, c)
		}
	}
	return tidy
}

func slowBounds(l []api.Cell) (b api.Box, some bool) {
	for _, c := range l {
		if !some {
			b, some = api.Box{X0: c.X, Y0: c.Y, X1: c.X, Y1: c.Y}, true
		}
		b = api.Box{X0: min(b.X0, c.X), Y0: min(b.Y0, c.Y), X1: max(b.X1, c.X), Y1: max(b.Y1, c.Y)}
	}
	return b, some
}

// slowLevel tries each level from 2 on with each cell.
func slowLevel(l []api.Cell) int {
	for level := 2; ; level++ {
		n := half(level)
		if !slices.ContainsFunc(l, func(c api.Cell) bool {
			return c.X < -n || c.X > n-1 || c.Y < -n || c.Y > n-1
		}) {
			return level
		}
	}
}

// lives asks square by square whether a cell lives, by the words of the chapter alone.
func lives(t *testing.T, a *arena.Arena, root, level int, c api.Cell) bool {
	t.Helper()
	x, y := -half(level), -half(level)
	for ; level > 0; level-- {
		q, e := a.Kids(mine, root)
		if e != api.OK {
			t.Fatalf("Kids(%d): error %d", root, e)
		}
		i := 0
		if c.X >= x+half(level) {
			x += half(level)
			i++
		}
		if c.Y >= y+half(level) {
			y += half(level)
			i += 2
		}
		root = q[i]
	}
	return root == api.Alive
}

// pattern is a root, and what should live in it.
type pattern struct {
	root, level int
	l           []api.Cell // tidy
}

func (p pattern) check(t *testing.T, a *arena.Arena) {
	t.Helper()
	wantLevel(t, "level", a, p.root, p.level)
	wantCells(t, "cells", a, p.root, p.l)
	wantCount(t, "count", a, p.root, len(p.l))
	b, some := slowBounds(p.l)
	wantBox(t, "box", a, p.root, b, some)
	for _, c := range p.l {
		for _, near := range field(c.X-1, c.Y-1, 3, 3) {
			n := half(p.level)
			if near.X < -n || near.X >= n || near.Y < -n || near.Y >= n {
				continue
			}
			if lives(t, a, p.root, p.level, near) != slices.Contains(p.l, near) {
				t.Errorf("the cell %v", near)
			}
		}
	}
}

func (p pattern) put(t *testing.T, a *arena.Arena, r *rand.Rand) pattern {
	n := half(min(p.level, 8))
	c := at(r.Intn(2*n)-n, r.Intn(2*n)-n)
	if len(p.l) > 0 && r.Intn(2) == 0 {
		c = p.l[r.Intn(len(p.l))]
	}
	alive := r.Intn(2) == 0
	rest := slices.DeleteFunc(slices.Clone(p.l), func(x api.Cell) bool { return x == c })
	if alive {
		rest = slowTidy(append(rest, c))
	}
	return pattern{must(t)(quad.Put(a, mine, p.root, c, alive)), p.level, rest}
}

func (p pattern) step(t *testing.T, a *arena.Arena, r *rand.Rand) pattern {
	switch r.Intn(6) {
	case 0:
		if p.level < api.MaxLevel {
			return pattern{must(t)(quad.Wrap(a, mine, p.root)), p.level + 1, p.l}
		}
	case 1:
		return pattern{must(t)(quad.Peel(a, mine, p.root)), slowLevel(p.l), p.l}
	case 2:
		if r.Intn(4) == 0 {
			return fresh(t, a, r)
		}
	}
	return p.put(t, a, r)
}

func fresh(t *testing.T, a *arena.Arena, r *rand.Rand) pattern {
	n := 1 << r.Intn(12)
	l := make([]api.Cell, r.Intn(20))
	for i := range l {
		l[i] = at(r.Intn(2*n)-n, r.Intn(2*n)-n)
	}
	return pattern{from(t, a, l...), slowLevel(l), slowTidy(l)}
}

// Patterns that are put together in many ways hold the cells that they should, and equal ones are one square.
func TestAgainstListsOfCells(t *testing.T) {
	for seed := range 60 {
		r := rand.New(rand.NewSource(int64(seed)))
		a := build(t, api.MaxRoom)
		p := fresh(t, a, r)
		for range 60 {
			p = p.step(t, a, r)
			p.check(t, a)
			least := from(t, a, p.l...)
			wantLevel(t, "From", a, least, slowLevel(p.l))
			wantId(t, "Peel", least)(quad.Peel(a, mine, p.root))
			if t.Failed() {
				t.Fatalf("seed %d", seed)
			}
		}
	}
}
