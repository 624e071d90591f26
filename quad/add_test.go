package quad_test

import (
	"math"
	"math/rand"
	"slices"
	"testing"

	"lifelodge/api"
	"lifelodge/arena"
	"lifelodge/quad"
)

// Add: many cells at once, in a root that becomes as wide as they need.

func TestAdd(t *testing.T) {
	for _, s := range []struct {
		what      string
		old, more []api.Cell
	}{
		{"nothing to nothing", nil, nil},
		{"nothing", cells(at(1, 1)), nil},
		{"to nothing", nil, cells(at(0, 0), at(1, 0), at(2, 0))},
		{"beside", cells(at(0, 0)), cells(at(1, 1))},
		{"what lives", cells(at(0, 0), at(1, 1)), cells(at(1, 1), at(1, 1))},
		{"a wider root", cells(at(-2, -2), at(1, 1)), cells(at(2, 0))},
		{"a far wider root", cells(at(-2, -2), at(1, 1)), cells(at(-1000, 1000), at(0, 0))},
		{"each of four quarters", cells(at(0, 0), at(-1, -1)), cells(at(9, 9), at(-9, 9), at(9, -9), at(-9, -9))},
		{"one quarter alone", cells(at(3, 3), at(-3, 3), at(3, -3), at(-3, -3)), cells(at(70, 70))},
		{"around the middle", cells(at(100, 100)), field(-2, -2, 4, 4)},
		{"as far as can be", cells(at(0, 0)), cells(at(edge, edge), at(-edge, -edge), at(edge, -edge))},
		{"back from there", cells(at(edge, -edge)), field(-1, -1, 2, 2)},
		{"a whole field", field(-32, -32, 64, 32), field(-32, 0, 64, 32)},
	} {
		a := build(t, api.MaxRoom)
		root := from(t, a, s.old...)
		all := slowTidy(append(slices.Clone(s.old), s.more...))
		got := must(t)(quad.Add(a, mine, root, s.more))
		wantCells(t, s.what, a, got, all)
		wantLevel(t, s.what, a, got, slowLevel(all))
		if n := a.Clean(mine, []int{root, got}); n != 0 {
			t.Errorf("%s: %d squares too many were made", s.what, n)
		}
		wantId(t, s.what, got)(quad.From(a, mine, all))
	}
}

func TestAddKeepsTheLevel(t *testing.T) {
	a := build(t, api.MaxRoom)
	for level := 2; level <= api.MaxLevel; level++ {
		root := putAll(t, a, level, at(-1, 0))
		got := must(t)(quad.Add(a, mine, root, cells(at(1, 1))))
		wantId(t, "Put", got)(quad.Put(a, mine, root, at(1, 1), true))
		wantLevel(t, "the same level", a, got, level)
		wantId(t, "no cells", root)(quad.Add(a, mine, root, nil))
	}
}

func TestAddToALevelOfOne(t *testing.T) {
	a := build(t, 100)
	root := join(t, a, [4]int{0, 1, 1, 0})
	wantId(t, "no cells", from(t, a, at(0, -1), at(-1, 0)))(quad.Add(a, mine, root, nil))
	wantId(t, "a cell", from(t, a, at(0, -1), at(-1, 0), at(0, 0)))(quad.Add(a, mine, root, cells(at(0, 0))))
	wantId(t, "a far cell", from(t, a, at(0, -1), at(-1, 0), at(9, 0)))(quad.Add(a, mine, root, cells(at(9, 0))))
}

// Beyond the bounds of lists of cells there may be more, and they may be farther than a list's.
func TestAddBeyondMaxCells(t *testing.T) {
	a := build(t, api.MaxRoom)
	root := from(t, a, field(0, 0, 64, 64)...)
	root = must(t)(quad.Add(a, mine, root, field(64, 0, 64, 64)))
	root = must(t)(quad.Add(a, mine, root, field(100, 0, 64, 64)))
	wantCount(t, "three fields", a, root, 164*64)
	far := putAll(t, a, api.MaxLevel, at(-half(api.MaxLevel), 5))
	far = must(t)(quad.Add(a, mine, far, cells(at(6, 6))))
	wantBox(t, "far", a, far, api.Box{X0: -half(api.MaxLevel), Y0: 5, X1: 6, Y1: 6}, true)
}

func TestAddRefuses(t *testing.T) {
	a := build(t, 1000)
	root := from(t, a, at(0, 0))
	tooMany := field(0, 0, api.MaxCells+1, 1)
	live := a.Live()
	for _, s := range []struct {
		l []api.Cell
		e api.Errno
	}{
		{tooMany, api.ErrFull},
		{append(tooMany, at(api.MaxCoord, 0)), api.ErrFull},
		{cells(at(api.MaxCoord, 0)), api.ErrRange},
		{cells(at(0, 0), at(0, -api.MaxCoord)), api.ErrRange},
		{cells(at(math.MinInt, math.MaxInt)), api.ErrRange},
	} {
		refuse(t, "a root", s.e)(quad.Add(a, mine, root, s.l))
		refuse(t, "no root", s.e)(quad.Add(a, mine, -1, s.l))
		refuse(t, "no tenant", s.e)(quad.Add(a, api.Tenants, root, s.l))
		refuse(t, "no arena", s.e)(quad.Add(nil, mine, root, s.l))
	}
	for _, l := range [][]api.Cell{nil, cells(at(0, 0)), cells(at(9, 9))} {
		for _, id := range []int{-1, -2, live + 2, 1 << 40, math.MinInt, math.MaxInt} {
			refuse(t, "no square", api.ErrNone)(quad.Add(a, mine, id, l))
		}
		refuse(t, "another's", api.ErrNone)(quad.Add(a, other, root, l))
		for _, tenant := range noTenants() {
			refuse(t, "no tenant", api.ErrNone)(quad.Add(a, tenant, root, l))
		}
		refuse(t, "no arena", api.ErrNone)(quad.Add(nil, mine, root, l))
		for _, id := range []int{api.Dead, api.Alive} {
			refuse(t, "level 0", api.ErrLevel)(quad.Add(a, mine, id, l))
		}
	}
	if a.Live() != live {
		t.Errorf("%d things became %d", live, a.Live())
	}
}

func TestAddWithTooLittle(t *testing.T) {
	old := cells(at(-5, 2), at(0, 0), at(3, -8))
	for _, more := range [][]api.Cell{cells(at(7, 7)), cells(at(40, -3)), field(-9, -9, 5, 5), cells(at(edge, 0))} {
		n := needs(t, "Add", func(a *arena.Arena) int { return from(t, a, old...) },
			func(a *arena.Arena, root int) (int, api.Errno) { return quad.Add(a, mine, root, more) })
		if n < 4 {
			t.Errorf("%v: Add makes %d squares", more, n)
		}
	}
	a := build(t, 1000)
	root := from(t, a, old...)
	more := must(t)(quad.Add(a, mine, root, cells(at(40, 40))))
	limit(t, a, 0)
	wantId(t, "nothing", root)(quad.Add(a, mine, root, nil))
	wantId(t, "what lives", root)(quad.Add(a, mine, root, old))
	wantId(t, "what was there", more)(quad.Add(a, mine, root, cells(at(40, 40))))
}

func TestAddLeavesTheListAsItIs(t *testing.T) {
	all := cells(at(2, 2), at(1, 2), at(2, 2), at(0, 1), at(9, 9), at(8, 8))
	before := slices.Clone(all)
	a := build(t, 1000)
	root := must(t)(quad.Add(a, mine, from(t, a, at(0, 0)), all[:4]))
	if !slices.Equal(all, before) {
		t.Errorf("handed in %v, left behind %v", before, all)
	}
	for i := range all {
		all[i] = at(-7, -7)
	}
	wantCells(t, "the list is written over", a, root, cells(at(0, 0), at(0, 1), at(1, 2), at(2, 2)))
}

func TestAddAgainstListsOfCells(t *testing.T) {
	for seed := range 200 {
		r := rand.New(rand.NewSource(int64(seed)))
		a := build(t, api.MaxRoom)
		p := fresh(t, a, r)
		for range 6 {
			n := 1 << r.Intn(14)
			more := make([]api.Cell, r.Intn(12))
			for i := range more {
				more[i] = at(r.Intn(2*n)-n, r.Intn(2*n)-n)
			}
			p.l = slowTidy(append(p.l, more...))
			p.root, p.level = must(t)(quad.Add(a, mine, p.root, more)), slowLevel(p.l)
			p.check(t, a)
			wantId(t, "From", p.root)(quad.From(a, mine, p.l))
		}
		if t.Failed() {
			t.Fatalf("seed %d", seed)
		}
	}
}
