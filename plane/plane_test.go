package plane_test

import (
	"math"
	"math/rand"
	"slices"
	"testing"

	"lifelodge/api"
	"lifelodge/plane"
)

const edge = api.MaxCoord - 1

func at(x, y int) api.Cell { return api.Cell{X: x, Y: y} }

func cells(l ...api.Cell) []api.Cell { return l }

// row is n cells side by side, from x on.
func row(x, n int) []api.Cell {
	l := make([]api.Cell, n)
	for i := range l {
		l[i] = at(x+i, 0)
	}
	return l
}

func want(t *testing.T, what string, got []api.Cell, e api.Errno, wanted []api.Cell) {
	t.Helper()
	if e != api.OK || !slices.Equal(got, wanted) {
		t.Errorf("%s: %v, error %d; want %v", what, got, e, wanted)
	}
}

func refuse(t *testing.T, what string, got []api.Cell, e, wanted api.Errno) {
	t.Helper()
	if e != wanted || len(got) != 0 {
		t.Errorf("%s: %d cells, error %d; want error %d and no cells", what, len(got), e, wanted)
	}
}

type merger struct {
	name string
	do   func(a, b []api.Cell) ([]api.Cell, api.Errno)
	keep func(inA, inB bool) bool
}

func mergers() []merger {
	return []merger{
		{"Union", plane.Union, func(inA, inB bool) bool { return inA || inB }},
		{"Both", plane.Both, func(inA, inB bool) bool { return inA && inB }},
		{"Minus", plane.Minus, func(inA, inB bool) bool { return inA && !inB }},
	}
}

// badLists are lists that Tidy refuses, each with its error.
func badLists() []struct {
	name string
	l    []api.Cell
	e    api.Errno
} {
	full := make([]api.Cell, api.MaxCells+1)
	fullAndFar := row(0, api.MaxCells+1)
	fullAndFar[0] = at(api.MaxCoord, 0)
	return []struct {
		name string
		l    []api.Cell
		e    api.Errno
	}{
		{"one cell too often", full, api.ErrFull},
		{"too many cells", row(0, api.MaxCells+1), api.ErrFull},
		{"too many, and too far", fullAndFar, api.ErrFull},
		{"X at MaxCoord", cells(at(api.MaxCoord, 0)), api.ErrRange},
		{"X at -MaxCoord", cells(at(-api.MaxCoord, 0)), api.ErrRange},
		{"Y at MaxCoord", cells(at(0, api.MaxCoord)), api.ErrRange},
		{"Y at -MaxCoord", cells(at(0, -api.MaxCoord)), api.ErrRange},
		{"the greatest X", cells(at(math.MaxInt, 0)), api.ErrRange},
		{"the least X", cells(at(math.MinInt, 0)), api.ErrRange},
		{"the greatest Y", cells(at(0, math.MaxInt)), api.ErrRange},
		{"the least Y", cells(at(0, math.MinInt)), api.ErrRange},
		{"the last of some", cells(at(0, 0), at(1, 0), at(0, api.MaxCoord)), api.ErrRange},
	}
}

// slowTidy asks of every place of a small field whether it is in the list.
func slowTidy(size int, in func(c api.Cell) bool) []api.Cell {
	var l []api.Cell
	for y := -size; y <= size; y++ {
		for x := -size; x <= size; x++ {
			if in(at(x, y)) {
				l = append(l, at(x, y))
			}
		}
	}
	return l
}

func someCells(r *rand.Rand, size, most int) []api.Cell {
	l := make([]api.Cell, r.Intn(most+1))
	for i := range l {
		l[i] = at(r.Intn(2*size+1)-size, r.Intn(2*size+1)-size)
	}
	return l
}

// P1.1

func TestTidySortsAndThins(t *testing.T) {
	for _, s := range []struct {
		name      string
		l, wanted []api.Cell
	}{
		{"nil", nil, nil},
		{"no cells", cells(), nil},
		{"one", cells(at(3, 4)), cells(at(3, 4))},
		{"one, three times", cells(at(3, 4), at(3, 4), at(3, 4)), cells(at(3, 4))},
		{"Y comes ahead of X", cells(at(0, 1), at(9, 0), at(-9, 2)), cells(at(9, 0), at(0, 1), at(-9, 2))},
		{"X within a row", cells(at(2, 5), at(-2, 5), at(0, 5)), cells(at(-2, 5), at(0, 5), at(2, 5))},
		{"the same apart from each other", cells(at(1, 1), at(0, 0), at(1, 1), at(0, 0)), cells(at(0, 0), at(1, 1))},
		{"below 0", cells(at(-1, -1), at(-2, -1), at(-1, -2)), cells(at(-1, -2), at(-2, -1), at(-1, -1))},
		{"corners", cells(at(edge, edge), at(-edge, edge), at(edge, -edge), at(-edge, -edge)),
			cells(at(-edge, -edge), at(edge, -edge), at(-edge, edge), at(edge, edge))},
	} {
		got, e := plane.Tidy(s.l)
		want(t, s.name, got, e, s.wanted)
	}
}

func TestTidyByHand(t *testing.T) {
	r := rand.New(rand.NewSource(1))
	for range 500 {
		l := someCells(r, 3, 40)
		got, e := plane.Tidy(l)
		want(t, "Tidy", got, e, slowTidy(3, func(c api.Cell) bool { return slices.Contains(l, c) }))
	}
}

func TestTidyTakesMaxCells(t *testing.T) {
	most := row(0, api.MaxCells)
	turned := slices.Clone(most)
	slices.Reverse(turned)
	got, e := plane.Tidy(turned)
	want(t, "MaxCells cells", got, e, most)
	got, e = plane.Tidy(make([]api.Cell, api.MaxCells))
	want(t, "one cell MaxCells times", got, e, cells(at(0, 0)))
}

func TestTidyRefuses(t *testing.T) {
	for _, s := range badLists() {
		got, e := plane.Tidy(s.l)
		refuse(t, s.name, got, e, s.e)
	}
}

// P1.2

func TestMergersOfSmallLists(t *testing.T) {
	p, q, r := at(5, 0), at(0, 1), at(1, 1)
	for _, s := range []struct {
		name                         string
		a, b, union, both, minusWant []api.Cell
	}{
		{"none and none", nil, cells(), nil, nil, nil},
		{"some and none", cells(q, p, q), nil, cells(p, q), nil, cells(p, q)},
		{"none and some", nil, cells(q, p, q), cells(p, q), nil, nil},
		{"the same", cells(p, q), cells(q, p), cells(p, q), cells(p, q), nil},
		{"nothing in common", cells(r, p), cells(q), cells(p, q, r), nil, cells(p, r)},
		{"something in common", cells(r, q, r), cells(q, p, q), cells(p, q, r), cells(q), cells(r)},
		{"within", cells(p, q, r), cells(q), cells(p, q, r), cells(q), cells(p, r)},
		{"around", cells(q), cells(p, q, r), cells(p, q, r), cells(q), nil},
		{"corners", cells(at(edge, edge), at(-edge, -edge)), cells(at(edge, edge)),
			cells(at(-edge, -edge), at(edge, edge)), cells(at(edge, edge)), cells(at(-edge, -edge))},
	} {
		got, e := plane.Union(s.a, s.b)
		want(t, "Union, "+s.name, got, e, s.union)
		got, e = plane.Both(s.a, s.b)
		want(t, "Both, "+s.name, got, e, s.both)
		got, e = plane.Minus(s.a, s.b)
		want(t, "Minus, "+s.name, got, e, s.minusWant)
	}
}

func TestMergersByHand(t *testing.T) {
	r := rand.New(rand.NewSource(2))
	for range 500 {
		a, b := someCells(r, 3, 30), someCells(r, 3, 30)
		for _, m := range mergers() {
			got, e := m.do(a, b)
			want(t, m.name, got, e, slowTidy(3, func(c api.Cell) bool {
				return m.keep(slices.Contains(a, c), slices.Contains(b, c))
			}))
		}
	}
}

func TestMergersAtMaxCells(t *testing.T) {
	most := row(0, api.MaxCells)
	got, e := plane.Union(most, most)
	want(t, "Union of the same", got, e, most)
	got, e = plane.Union(most[:1], most[1:])
	want(t, "Union up to MaxCells", got, e, most)
	got, e = plane.Union(make([]api.Cell, api.MaxCells), most[1:])
	want(t, "Union with one cell MaxCells times", got, e, most)
	got, e = plane.Union(most, row(api.MaxCells, 1))
	refuse(t, "Union of MaxCells and one more", got, e, api.ErrFull)
	got, e = plane.Union(row(-1, 1), most)
	refuse(t, "Union of one and MaxCells more", got, e, api.ErrFull)
	got, e = plane.Union(most, row(api.MaxCells, api.MaxCells))
	refuse(t, "Union of twice MaxCells", got, e, api.ErrFull)
	got, e = plane.Both(most, row(1, api.MaxCells))
	want(t, "Both of MaxCells", got, e, most[1:])
	got, e = plane.Minus(most, row(1, api.MaxCells))
	want(t, "Minus of MaxCells", got, e, most[:1])
	got, e = plane.Minus(most, row(api.MaxCells, api.MaxCells))
	want(t, "Minus of MaxCells others", got, e, most)
}

func TestMergersRefuse(t *testing.T) {
	good := cells(at(0, 0))
	for _, m := range mergers() {
		for _, s := range badLists() {
			for _, other := range [][]api.Cell{nil, good} {
				got, e := m.do(s.l, other)
				refuse(t, m.name+", a: "+s.name, got, e, s.e)
				got, e = m.do(other, s.l)
				refuse(t, m.name+", b: "+s.name, got, e, s.e)
			}
			for _, second := range badLists() {
				got, e := m.do(s.l, second.l)
				refuse(t, m.name+", a: "+s.name+", b: "+second.name, got, e, s.e)
			}
		}
	}
}

func TestUnionTellsTheListsErrorsAheadOfItsOwn(t *testing.T) {
	far := row(api.MaxCells, api.MaxCells)
	far[7] = at(api.MaxCoord, 0)
	got, e := plane.Union(row(0, api.MaxCells), far)
	refuse(t, "b is too far, and both are too many", got, e, api.ErrRange)
	got, e = plane.Union(far, row(0, api.MaxCells))
	refuse(t, "a is too far, and both are too many", got, e, api.ErrRange)
}

// P1.3

func TestShift(t *testing.T) {
	const furthest = 2*api.MaxCoord - 2
	for _, s := range []struct {
		name      string
		l         []api.Cell
		dx, dy    int
		wanted    []api.Cell
		wantedErr api.Errno
	}{
		{"no cells", nil, 5, -5, nil, api.OK},
		{"no move", cells(at(1, 1), at(0, 0), at(1, 1)), 0, 0, cells(at(0, 0), at(1, 1)), api.OK},
		{"east", cells(at(1, 2), at(-1, 2)), 3, 0, cells(at(2, 2), at(4, 2)), api.OK},
		{"south", cells(at(1, 2), at(-1, 2)), 0, 3, cells(at(-1, 5), at(1, 5)), api.OK},
		{"north-west", cells(at(9, 0), at(0, 1)), -10, -20, cells(at(-1, -20), at(-10, -19)), api.OK},
		{"to the corner", cells(at(0, 0)), edge, -edge, cells(at(edge, -edge)), api.OK},
		{"across", cells(at(-edge, edge)), furthest, -furthest, cells(at(edge, -edge)), api.OK},
		{"back across", cells(at(edge, -edge)), -furthest, furthest, cells(at(-edge, edge)), api.OK},
		{"no cells, the furthest move", nil, 2*api.MaxCoord - 1, 1 - 2*api.MaxCoord, nil, api.OK},
		{"no cells, dx too great", nil, 2 * api.MaxCoord, 0, nil, api.ErrRange},
		{"no cells, dx too small", nil, -2 * api.MaxCoord, 0, nil, api.ErrRange},
		{"no cells, dy too great", cells(), 0, 2 * api.MaxCoord, nil, api.ErrRange},
		{"no cells, dy too small", cells(), 0, -2 * api.MaxCoord, nil, api.ErrRange},
		{"no cells, the greatest dx", nil, math.MaxInt, 0, nil, api.ErrRange},
		{"no cells, the least dx", nil, math.MinInt, 0, nil, api.ErrRange},
		{"no cells, the greatest dy", nil, 0, math.MaxInt, nil, api.ErrRange},
		{"no cells, the least dy", nil, 0, math.MinInt, nil, api.ErrRange},
		{"a sum that would wrap", cells(at(-edge, -edge)), math.MinInt, math.MinInt, nil, api.ErrRange},
		{"moved out east", cells(at(0, 0), at(1, 0)), edge, 0, nil, api.ErrRange},
		{"moved out west", cells(at(0, 0), at(-1, 0)), -edge, 0, nil, api.ErrRange},
		{"moved out south", cells(at(0, 0), at(0, 1)), 0, edge, nil, api.ErrRange},
		{"moved out north", cells(at(0, 0), at(0, -1)), 0, -edge, nil, api.ErrRange},
		{"the furthest move from 0", cells(at(0, 0)), 2*api.MaxCoord - 1, 0, nil, api.ErrRange},
	} {
		got, e := plane.Shift(s.l, s.dx, s.dy)
		if s.wantedErr != api.OK {
			refuse(t, s.name, got, e, s.wantedErr)
			continue
		}
		want(t, s.name, got, e, s.wanted)
	}
}

func TestShiftTellsTheListsErrorsFirst(t *testing.T) {
	for _, s := range badLists() {
		for _, d := range []int{0, 1, -1, 2 * api.MaxCoord, math.MinInt} {
			got, e := plane.Shift(s.l, d, d)
			refuse(t, s.name, got, e, s.e)
		}
	}
	// A cell out of bounds is refused even if the move would bring it back.
	got, e := plane.Shift(cells(at(api.MaxCoord, 0)), -1, 0)
	refuse(t, "moved back", got, e, api.ErrRange)
}

func TestShiftTakesMaxCells(t *testing.T) {
	got, e := plane.Shift(row(0, api.MaxCells), 7, 0)
	want(t, "MaxCells cells", got, e, row(7, api.MaxCells))
}

// P1.4

func TestBounds(t *testing.T) {
	for _, s := range []struct {
		name   string
		l      []api.Cell
		wanted api.Box
		ok     bool
	}{
		{"nil", nil, api.Box{}, false},
		{"no cells", cells(), api.Box{}, false},
		{"no cells, with spare room", cells(at(1, 2))[:0], api.Box{}, false},
		{"one", cells(at(3, -4)), api.Box{X0: 3, Y0: -4, X1: 3, Y1: -4}, true},
		{"the origin", cells(at(0, 0)), api.Box{}, true},
		{"not tidy", cells(at(2, 9), at(5, 1), at(2, 9), at(4, 3)), api.Box{X0: 2, Y0: 1, X1: 5, Y1: 9}, true},
		{"far from 0", cells(at(-7, -9), at(-5, -8)), api.Box{X0: -7, Y0: -9, X1: -5, Y1: -8}, true},
		{"out of Tidy's bounds", cells(at(api.MaxCoord, 0), at(0, -api.MaxCoord)),
			api.Box{X0: 0, Y0: -api.MaxCoord, X1: api.MaxCoord, Y1: 0}, true},
		{"all numbers", cells(at(math.MaxInt, math.MinInt), at(math.MinInt, math.MaxInt)),
			api.Box{X0: math.MinInt, Y0: math.MinInt, X1: math.MaxInt, Y1: math.MaxInt}, true},
		{"more than MaxCells", row(-1, 3*api.MaxCells), api.Box{X0: -1, X1: 3*api.MaxCells - 2}, true},
	} {
		got, ok := plane.Bounds(s.l)
		if got != s.wanted || ok != s.ok {
			t.Errorf("%s: %v, %v; want %v, %v", s.name, got, ok, s.wanted, s.ok)
		}
	}
}

// What holds everywhere: lists.

// lent is a list with spare room behind it, and all that memory.
func lent() (l, all []api.Cell) {
	all = cells(at(2, 2), at(1, 2), at(2, 2), at(0, 1), at(9, 9), at(8, 8), at(7, 7), at(6, 6))
	return all[:4], all
}

func scribble(l []api.Cell) {
	l = l[:cap(l)]
	for i := range l {
		l[i] = at(-77, -77)
	}
}

func answers(a, b []api.Cell) map[string][]api.Cell {
	m := map[string][]api.Cell{}
	m["Tidy"], _ = plane.Tidy(a)
	m["Shift"], _ = plane.Shift(a, 1, 1)
	m["Shift by nothing"], _ = plane.Shift(a, 0, 0)
	m["Union"], _ = plane.Union(a, b)
	m["Union with none"], _ = plane.Union(a, nil)
	m["Union of none"], _ = plane.Union(nil, b)
	m["Both"], _ = plane.Both(a, b)
	m["Minus"], _ = plane.Minus(a, b)
	m["Minus none"], _ = plane.Minus(a, nil)
	plane.Bounds(a)
	return m
}

func TestListsHandedInStayAsTheyAre(t *testing.T) {
	a, allA := lent()
	b, allB := lent()
	_, before := lent()
	given := answers(a, b)
	// A tidy list must be copied, too, though nothing in it is to be moved.
	tidied, _ := plane.Tidy(a)
	kept := slices.Clone(tidied)
	again := answers(tidied, tidied)
	if !slices.Equal(allA, before) || !slices.Equal(allB, before) {
		t.Fatalf("handed in %v, left behind %v and %v", before, allA, allB)
	}
	for _, m := range []map[string][]api.Cell{given, again} {
		for _, l := range m {
			scribble(l)
		}
	}
	if !slices.Equal(allA, before) || !slices.Equal(allB, before) || !slices.Equal(tidied, kept) {
		t.Errorf("an answer shares memory with what was handed in")
	}
}

func TestAnswersShareNothing(t *testing.T) {
	a, _ := lent()
	b := cells(at(2, 2), at(0, 0))
	for name := range answers(a, b) {
		given, untouched := answers(a, b), answers(a, b)
		scribble(given[name])
		for other, l := range given {
			if other != name && !slices.Equal(l, untouched[other]) {
				t.Errorf("%s shares memory with %s", other, name)
			}
		}
		if !slices.Equal(answers(a, b)[name], untouched[name]) {
			t.Errorf("%s is kept from call to call", name)
		}
	}
}

func TestAnswersDoNotFollowWhatWasHandedIn(t *testing.T) {
	a, _ := lent()
	b := cells(at(2, 2), at(0, 0))
	given, untouched := answers(a, b), answers(a, b)
	scribble(a)
	scribble(b)
	for name, l := range given {
		if !slices.Equal(l, untouched[name]) {
			t.Errorf("%s changes with what was handed in", name)
		}
	}
}
