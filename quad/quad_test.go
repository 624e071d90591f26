package quad_test

import (
	"math"
	"slices"
	"testing"

	"lifelodge/api"
	"lifelodge/arena"
	"lifelodge/quad"
)

const (
	mine  = 7
	other = api.Tenants - 1
	edge  = api.MaxCoord - 1
)

func noTenants() []int { return []int{-1, api.Tenants, 1 << 32, math.MinInt, math.MaxInt} }

func at(x, y int) api.Cell { return api.Cell{X: x, Y: y} }

func cells(l ...api.Cell) []api.Cell { return l }

func four(id int) [4]int { return [4]int{id, id, id, id} }

// half is how far a root of a level reaches to the west and the north.
func half(level int) int { return 1 << (level - 1) }

// field is all cells from x, y on, so many to the east and to the south.
func field(x, y, wide, high int) []api.Cell {
	var l []api.Cell
	for dy := range high {
		for dx := range wide {
			l = append(l, at(x+dx, y+dy))
		}
	}
	return l
}

func build(t *testing.T, room int) *arena.Arena {
	t.Helper()
	a, e := arena.New(room)
	if e != api.OK {
		t.Fatalf("New(%d): error %d", room, e)
	}
	return a
}

func join(t *testing.T, a *arena.Arena, q [4]int) int {
	t.Helper()
	id, e := a.Join(mine, q)
	if e != api.OK {
		t.Fatalf("Join(%v): error %d", q, e)
	}
	return id
}

// same is the square of a level that is made of one cell all over.
func same(t *testing.T, a *arena.Arena, id, level int) int {
	t.Helper()
	for range level {
		id = join(t, a, four(id))
	}
	return id
}

// must is the answer of a call that may not be refused.
func must(t *testing.T) func(id int, e api.Errno) int {
	return func(id int, e api.Errno) int {
		t.Helper()
		if e != api.OK {
			t.Fatalf("refused: error %d", e)
		}
		return id
	}
}

func from(t *testing.T, a *arena.Arena, l ...api.Cell) int {
	t.Helper()
	return must(t)(quad.From(a, mine, l))
}

// putAll is an empty root of a level with cells put into it.
func putAll(t *testing.T, a *arena.Arena, level int, l ...api.Cell) int {
	t.Helper()
	root := must(t)(quad.Empty(a, mine, level))
	for _, c := range l {
		root = must(t)(quad.Put(a, mine, root, c, true))
	}
	return root
}

func wantLevel(t *testing.T, what string, a *arena.Arena, id, wanted int) {
	t.Helper()
	if n, e := a.Level(mine, id); n != wanted || e != api.OK {
		t.Errorf("%s: level %d, error %d; want level %d", what, n, e, wanted)
	}
}

func wantCells(t *testing.T, what string, a *arena.Arena, root int, wanted []api.Cell) {
	t.Helper()
	l, e := quad.Cells(a, mine, root)
	if e != api.OK || !slices.Equal(l, wanted) {
		t.Errorf("%s: %v, error %d; want %v", what, l, e, wanted)
	}
}

func wantCount(t *testing.T, what string, a *arena.Arena, root, wanted int) {
	t.Helper()
	if n, e := quad.Count(a, mine, root); n != wanted || e != api.OK {
		t.Errorf("%s: %d live, error %d; want %d", what, n, e, wanted)
	}
}

func wantBox(t *testing.T, what string, a *arena.Arena, root int, wanted api.Box, some bool) {
	t.Helper()
	if b, ok, e := quad.Box(a, mine, root); b != wanted || ok != some || e != api.OK {
		t.Errorf("%s: box %v, %v, error %d; want %v, %v", what, b, ok, e, wanted, some)
	}
}

// wantId wants what a call answered to be a square.
func wantId(t *testing.T, what string, wanted int) func(id int, e api.Errno) {
	return func(id int, e api.Errno) {
		t.Helper()
		if id != wanted || e != api.OK {
			t.Errorf("%s: %d, error %d; want %d", what, id, e, wanted)
		}
	}
}

func refuse(t *testing.T, what string, wanted api.Errno) func(id int, e api.Errno) {
	return func(id int, e api.Errno) {
		t.Helper()
		if id != 0 || e != wanted {
			t.Errorf("%s: %d, error %d; want 0, error %d", what, id, e, wanted)
		}
	}
}

func refuseCells(t *testing.T, what string, wanted api.Errno) func(l []api.Cell, e api.Errno) {
	return func(l []api.Cell, e api.Errno) {
		t.Helper()
		if len(l) != 0 || e != wanted {
			t.Errorf("%s: %d cells, error %d; want none, error %d", what, len(l), e, wanted)
		}
	}
}

func refuseBox(t *testing.T, what string, wanted api.Errno) func(b api.Box, some bool, e api.Errno) {
	return func(b api.Box, some bool, e api.Errno) {
		t.Helper()
		if b != (api.Box{}) || some || e != wanted {
			t.Errorf("%s: %v, %v, error %d; want none, error %d", what, b, some, e, wanted)
		}
	}
}

// refuseAll wants each call that takes a root to be refused with one error.
func refuseAll(t *testing.T, a *arena.Arena, tenant, root int, wanted api.Errno) {
	t.Helper()
	refuseCells(t, "Cells", wanted)(quad.Cells(a, tenant, root))
	refuse(t, "Count", wanted)(quad.Count(a, tenant, root))
	refuseBox(t, "Box", wanted)(quad.Box(a, tenant, root))
	refuse(t, "Wrap", wanted)(quad.Wrap(a, tenant, root))
	refuse(t, "Peel", wanted)(quad.Peel(a, tenant, root))
	for _, alive := range []bool{false, true} {
		refuse(t, "Put", wanted)(quad.Put(a, tenant, root, at(0, 0), alive))
		refuse(t, "Put far away", wanted)(quad.Put(a, tenant, root, at(math.MaxInt, math.MinInt), alive))
	}
}

// P5.1

func TestEmpty(t *testing.T) {
	a := build(t, 100)
	id := api.Dead
	for level := range api.MaxLevel + 1 {
		wantId(t, "Empty", id)(quad.Empty(a, mine, level))
		wantLevel(t, "Empty", a, id, level)
		wantCount(t, "Empty", a, id, 0)
		if level > 0 {
			wantCells(t, "Empty", a, id, nil)
			wantBox(t, "Empty", a, id, api.Box{}, false)
		}
		if level < api.MaxLevel {
			id = join(t, a, four(id))
		}
	}
}

func TestEmptyOfTheGreatestLevelAlone(t *testing.T) {
	a := build(t, 100)
	id := must(t)(quad.Empty(a, mine, api.MaxLevel))
	wantLevel(t, "Empty", a, id, api.MaxLevel)
	wantCount(t, "Empty", a, id, 0)
	wantBox(t, "Empty", a, id, api.Box{}, false)
	if n := a.Count(mine); n != api.MaxLevel {
		t.Errorf("it has %d squares; want one a level", n)
	}
	wantId(t, "Empty again", id)(quad.Empty(a, mine, api.MaxLevel))
	if n := a.Count(mine); n != api.MaxLevel {
		t.Errorf("then it has %d squares; want one a level", n)
	}
}

func TestEmptyRefuses(t *testing.T) {
	a := build(t, 100)
	for _, level := range []int{-1, api.MaxLevel + 1, 64, 1 << 32, math.MinInt, math.MaxInt} {
		refuse(t, "a wrong level", api.ErrLevel)(quad.Empty(a, mine, level))
		refuse(t, "a wrong level, no tenant", api.ErrLevel)(quad.Empty(a, -1, level))
		refuse(t, "a wrong level, no arena", api.ErrLevel)(quad.Empty(nil, mine, level))
	}
	for _, level := range []int{1, 2, api.MaxLevel} {
		for _, tenant := range noTenants() {
			refuse(t, "no tenant", api.ErrRange)(quad.Empty(a, tenant, level))
			refuse(t, "no arena, no tenant", api.ErrState)(quad.Empty(nil, tenant, level))
		}
		refuse(t, "no arena", api.ErrState)(quad.Empty(nil, mine, level))
	}
	if n := a.Live(); n != 0 {
		t.Errorf("%d squares were made", n)
	}
}

// The empty square of level 0 is there without Join.
func TestEmptyOfLevelZero(t *testing.T) {
	for _, tenant := range append(noTenants(), 0, other) {
		wantId(t, "no arena", api.Dead)(quad.Empty(nil, tenant, 0))
		wantId(t, "no room", api.Dead)(quad.Empty(build(t, 0), tenant, 0))
	}
}

// P5.2

func TestFromLevels(t *testing.T) {
	for _, s := range []struct {
		l     []api.Cell
		level int
	}{
		{nil, 2},
		{cells(), 2},
		{cells(at(0, 0)), 2},
		{cells(at(-1, -1)), 2},
		{field(-1, -1, 2, 2), 2},
		{field(-2, -2, 4, 4), 2},
		{cells(at(-2, 1)), 2},
		{cells(at(1, -2)), 2},
		{cells(at(2, 0)), 3},
		{cells(at(0, 2)), 3},
		{cells(at(-3, 0)), 3},
		{cells(at(0, -3)), 3},
		{cells(at(0, 0), at(-4, 3)), 3},
		{cells(at(0, 0), at(3, -4)), 3},
		{cells(at(4, 0), at(0, 0)), 4},
		{cells(at(0, 0), at(0, -5)), 4},
		{cells(at(edge, 0)), 41},
		{cells(at(0, edge)), 41},
		{cells(at(-edge, 0)), 41},
		{cells(at(0, -edge)), 41},
		{cells(at(1<<39-1, -(1 << 39))), 40},
		{cells(at(1<<39, 0)), 41},
		{cells(at(0, -(1<<39)-1)), 41},
	} {
		a := build(t, 1000)
		root := from(t, a, s.l...)
		wantLevel(t, "From", a, root, s.level)
		wantCells(t, "From", a, root, slowTidy(s.l))
		wantCount(t, "From", a, root, len(s.l))
	}
}

// At each level the last place within is of that level, the first one beyond of the next.
func TestFromAtTheEdgesOfEachLevel(t *testing.T) {
	a := build(t, 100000)
	for level := 2; level <= 40; level++ {
		n := half(level)
		for _, c := range cells(at(-n, 0), at(0, -n), at(n-1, 0), at(0, n-1), at(-n, n-1), at(n-1, -n)) {
			root := from(t, a, c)
			wantLevel(t, "within", a, root, level)
			wantCells(t, "within", a, root, cells(c))
		}
		for _, c := range cells(at(-n-1, 0), at(0, -n-1), at(n, 0), at(0, n), at(-n-1, n), at(n, -n-1)) {
			root := from(t, a, c)
			wantLevel(t, "beyond", a, root, level+1)
			wantCells(t, "beyond", a, root, cells(c))
		}
	}
}

// The quarters of a root by hand: its south-east quarter begins at 0, 0.
func TestFromByHand(t *testing.T) {
	a := build(t, 100)
	root := from(t, a, at(-2, -2), at(0, -2), at(1, -1), at(-1, 0), at(0, 1), at(1, 1))
	nw := join(t, a, [4]int{1, 0, 0, 0})
	ne := join(t, a, [4]int{1, 0, 0, 1})
	sw := join(t, a, [4]int{0, 1, 0, 0})
	se := join(t, a, [4]int{0, 0, 1, 1})
	wantId(t, "the root by hand", root)(a.Join(mine, [4]int{nw, ne, sw, se}))
}

func TestFromMakesJustTheRoot(t *testing.T) {
	for _, l := range [][]api.Cell{nil, cells(at(0, 0)), field(-2, -2, 4, 4), cells(at(edge, -edge), at(3, 4))} {
		a := build(t, 1000)
		root := from(t, a, l...)
		if n := a.Clean(mine, []int{root}); n != 0 {
			t.Errorf("%d squares too many were made of %v", n, l)
		}
	}
}

func TestFromOrderAndDoubles(t *testing.T) {
	a := build(t, 1000)
	l := cells(at(-5, 2), at(0, 0), at(3, -8), at(3, 2))
	root := from(t, a, l...)
	n := a.Count(mine)
	turned := slices.Clone(l)
	slices.Reverse(turned)
	for _, again := range [][]api.Cell{turned, append(turned, l...), append(slices.Clone(l), l[1], l[1])} {
		wantId(t, "the same cells", root)(quad.From(a, mine, again))
	}
	if a.Count(mine) != n {
		t.Errorf("%d squares became %d", n, a.Count(mine))
	}
	if more := from(t, a, append(l, at(4, 4))...); more == root {
		t.Errorf("one cell more is the same square")
	}
	if less := from(t, a, l[1:]...); less == root {
		t.Errorf("one cell less is the same square")
	}
}

func TestFromMaxCells(t *testing.T) {
	a := build(t, api.MaxRoom)
	l := field(-32, -32, 64, 64)
	root := from(t, a, l...)
	wantLevel(t, "a field", a, root, 6)
	wantId(t, "a field", same(t, a, api.Alive, 6))(root, api.OK)
	wantCells(t, "a field", a, root, l)
	wantId(t, "one cell so often", from(t, a, at(0, 0)))(quad.From(a, mine, make([]api.Cell, api.MaxCells)))
	var far []api.Cell
	for i := range api.MaxCells {
		far = append(far, at((i*7919%4096-2048)*(1<<29-1), (i-2048)*(1<<29-1)))
	}
	wantCells(t, "far from each other", a, from(t, a, far...), far)
}

func TestFromRefuses(t *testing.T) {
	tooMany := field(0, 0, api.MaxCells+1, 1)
	both := slices.Clone(tooMany)
	both[0] = at(api.MaxCoord, 0)
	a := build(t, 1000)
	for _, s := range []struct {
		what string
		l    []api.Cell
		e    api.Errno
	}{
		{"too many", tooMany, api.ErrFull},
		{"one cell too often", make([]api.Cell, api.MaxCells+1), api.ErrFull},
		{"too many, too far", both, api.ErrFull},
		{"too far east", cells(at(0, 0), at(api.MaxCoord, 0)), api.ErrRange},
		{"too far west", cells(at(-api.MaxCoord, 0), at(0, 0)), api.ErrRange},
		{"too far south", cells(at(0, api.MaxCoord)), api.ErrRange},
		{"too far north", cells(at(0, -api.MaxCoord)), api.ErrRange},
		{"as far as can be", cells(at(math.MinInt, math.MaxInt)), api.ErrRange},
	} {
		refuse(t, s.what, s.e)(quad.From(a, mine, s.l))
		refuse(t, s.what+", no tenant", s.e)(quad.From(a, api.Tenants, s.l))
		refuse(t, s.what+", no arena", s.e)(quad.From(nil, mine, s.l))
		refuse(t, s.what+", no room", s.e)(quad.From(build(t, 0), mine, s.l))
	}
	if n := a.Live(); n != 0 {
		t.Errorf("%d squares were made", n)
	}
	for _, l := range [][]api.Cell{nil, cells(at(1, 1)), field(-2, -2, 4, 4)} {
		for _, tenant := range noTenants() {
			refuse(t, "no tenant", api.ErrRange)(quad.From(a, tenant, l))
			refuse(t, "no arena, no tenant", api.ErrState)(quad.From(nil, tenant, l))
		}
		refuse(t, "no arena", api.ErrState)(quad.From(nil, mine, l))
		refuse(t, "no room", api.ErrQuota)(quad.From(build(t, 0), mine, l))
	}
}

func TestFromLeavesTheListAsItIs(t *testing.T) {
	all := cells(at(2, 2), at(1, 2), at(2, 2), at(0, 1), at(9, 9), at(8, 8))
	before := slices.Clone(all)
	a := build(t, 1000)
	root := must(t)(quad.From(a, mine, all[:4]))
	if !slices.Equal(all, before) {
		t.Errorf("handed in %v, left behind %v", before, all)
	}
	for i := range all {
		all[i] = at(-7, -7)
	}
	wantCells(t, "the list is written over", a, root, cells(at(0, 1), at(1, 2), at(2, 2)))
}

// P5.3

func TestLookAtSmallRoots(t *testing.T) {
	a := build(t, 1000)
	wantCount(t, "Dead", a, api.Dead, 0)
	wantCount(t, "Alive", a, api.Alive, 1)
	places := cells(at(-1, -1), at(0, -1), at(-1, 0), at(0, 0))
	for i := range 16 {
		var q [4]int
		var l []api.Cell
		for k := range q {
			if q[k] = i >> k & 1; q[k] == api.Alive {
				l = append(l, places[k])
			}
		}
		root := join(t, a, q)
		wantCells(t, "level 1", a, root, l)
		wantCount(t, "level 1", a, root, len(l))
		b, some := slowBounds(l)
		wantBox(t, "level 1", a, root, b, some)
	}
}

func TestCellsAreTidy(t *testing.T) {
	a := build(t, 1000)
	root := from(t, a, at(1, 0), at(0, 1), at(-1, 0), at(0, -1), at(5, 0), at(-5, 0), at(0, 0), at(2, -1))
	wantCells(t, "in their order", a, root,
		cells(at(0, -1), at(2, -1), at(-5, 0), at(-1, 0), at(0, 0), at(1, 0), at(5, 0), at(0, 1)))
}

func TestCellsAndCountAtMaxCells(t *testing.T) {
	a := build(t, api.MaxRoom)
	full := field(-32, -32, 64, 64)
	root := must(t)(quad.Wrap(a, mine, from(t, a, full...)))
	wantCells(t, "MaxCells", a, root, full)
	wantCount(t, "MaxCells", a, root, api.MaxCells)
	more := must(t)(quad.Put(a, mine, root, at(32, 0), true))
	refuseCells(t, "one more", api.ErrFull)(quad.Cells(a, mine, more))
	wantCount(t, "one more", a, more, api.MaxCells+1)
	wantBox(t, "one more", a, more, api.Box{X0: -32, Y0: -32, X1: 32, Y1: 31}, true)
	less := must(t)(quad.Put(a, mine, more, at(5, 5), false))
	wantCount(t, "one less again", a, less, api.MaxCells)
	if l, e := quad.Cells(a, mine, less); len(l) != api.MaxCells || e != api.OK {
		t.Errorf("one less again: %d cells, error %d", len(l), e)
	}
}

func TestFullRoots(t *testing.T) {
	a := build(t, 1000)
	for level := 1; level <= api.MaxLevel; level++ {
		root := same(t, a, api.Alive, level)
		n := half(level)
		wantBox(t, "full", a, root, api.Box{X0: -n, Y0: -n, X1: n - 1, Y1: n - 1}, true)
		if level < 31 {
			wantCount(t, "full", a, root, 1<<(2*level))
		} else {
			refuse(t, "full", api.ErrFull)(quad.Count(a, mine, root))
		}
		if level <= 6 {
			wantCells(t, "full", a, root, field(-n, -n, 2*n, 2*n))
		} else {
			refuseCells(t, "full", api.ErrFull)(quad.Cells(a, mine, root))
		}
	}
}

func TestCountAroundItsBound(t *testing.T) {
	a := build(t, 1000)
	full := same(t, a, api.Alive, 31)
	refuse(t, "2^62", api.ErrFull)(quad.Count(a, mine, full))
	less := must(t)(quad.Put(a, mine, full, at(0, 0), false))
	wantCount(t, "2^62 - 1", a, less, 1<<62-1)
	empty := must(t)(quad.Empty(a, mine, 31))
	one := must(t)(quad.Put(a, mine, empty, at(9, 9), true))
	for _, s := range []struct {
		q     [4]int
		count int // 0: too many
	}{
		{[4]int{empty, full, empty, empty}, 0},
		{[4]int{full, full, empty, empty}, 0},
		{[4]int{full, full, full, empty}, 0},
		{[4]int{full, full, full, full}, 0},
		{[4]int{full, full, full, one}, 0},
		{[4]int{less, less, less, less}, 0},
		{[4]int{one, empty, less, empty}, 0},
		{[4]int{empty, less, empty, empty}, 1<<62 - 1},
		{[4]int{one, one, one, one}, 4},
	} {
		root := join(t, a, s.q)
		if s.count == 0 {
			refuse(t, "2^62 or more", api.ErrFull)(quad.Count(a, mine, root))
			refuseCells(t, "2^62 or more", api.ErrFull)(quad.Cells(a, mine, root))
			continue
		}
		wantCount(t, "less than 2^62", a, root, s.count)
	}
}

func TestCellsOutOfTidysBounds(t *testing.T) {
	a := build(t, 10000)
	for _, level := range []int{42, api.MaxLevel} {
		for _, c := range cells(at(edge, 0), at(-edge, 0), at(0, edge), at(0, -edge), at(edge, -edge)) {
			wantCells(t, "just within", a, putAll(t, a, level, c), cells(c))
		}
		for _, c := range cells(at(api.MaxCoord, 0), at(-api.MaxCoord, 0), at(0, api.MaxCoord), at(0, -api.MaxCoord),
			at(half(level)-1, 0), at(0, -half(level))) {
			root := putAll(t, a, level, at(3, 3), c)
			refuseCells(t, "just out", api.ErrRange)(quad.Cells(a, mine, root))
			wantCount(t, "just out", a, root, 2)
			wantBox(t, "just out", a, root, api.Box{X0: min(3, c.X), Y0: min(3, c.Y), X1: max(3, c.X), Y1: max(3, c.Y)}, true)
		}
	}
	root := putAll(t, a, 41, at(-api.MaxCoord, 0))
	refuseCells(t, "at the edge of level 41", api.ErrRange)(quad.Cells(a, mine, root))
	wantId(t, "at the edge of level 41", root)(quad.Peel(a, mine, root))
}

func TestCellsTellsFullAheadOfRange(t *testing.T) {
	a := build(t, 10000)
	root := must(t)(quad.Empty(a, mine, 42))
	q, _ := a.Kids(mine, root)
	q[0] = same(t, a, api.Alive, 41)
	refuseCells(t, "too many and too far", api.ErrFull)(quad.Cells(a, mine, join(t, a, q)))
}

func TestBox(t *testing.T) {
	a := build(t, 10000)
	for _, l := range [][]api.Cell{
		nil,
		cells(at(0, 0)),
		cells(at(-1, -1)),
		cells(at(5, -9)),
		cells(at(-3, 4), at(6, 1)),
		cells(at(-3, -4), at(-6, -1), at(-4, -9)),
		cells(at(edge, edge), at(-edge, -edge)),
		cells(at(edge, -edge), at(edge-1, 5)),
		field(-2, 3, 5, 7),
	} {
		b, some := slowBounds(l)
		root := from(t, a, l...)
		wantBox(t, "Box", a, root, b, some)
		wantBox(t, "Box of a wider root", a, must(t)(quad.Wrap(a, mine, root)), b, some)
	}
}

func TestLookingMakesNothing(t *testing.T) {
	a := build(t, 1000)
	root := from(t, a, at(-5, 2), at(0, 0), at(3, -8))
	limit(t, a, 0)
	n := a.Live()
	wantCells(t, "Cells", a, root, cells(at(3, -8), at(0, 0), at(-5, 2)))
	wantCount(t, "Count", a, root, 3)
	wantBox(t, "Box", a, root, api.Box{X0: -5, Y0: -8, X1: 3, Y1: 2}, true)
	if a.Live() != n {
		t.Errorf("%d squares became %d", n, a.Live())
	}
}

func TestAnswersShareNothing(t *testing.T) {
	a := build(t, 1000)
	root := from(t, a, at(-5, 2), at(0, 0), at(3, -8))
	l, _ := quad.Cells(a, mine, root)
	again, _ := quad.Cells(a, mine, root)
	l = l[:cap(l)]
	for i := range l {
		l[i] = at(-77, -77)
	}
	wanted := cells(at(3, -8), at(0, 0), at(-5, 2))
	if !slices.Equal(again, wanted) {
		t.Errorf("an answer shares memory with another one: %v", again)
	}
	wantCells(t, "after writing over an answer", a, root, wanted)
}

// P5.4

func TestWrap(t *testing.T) {
	a := build(t, 10000)
	for _, l := range [][]api.Cell{nil, cells(at(0, 0)), cells(at(-2, 1), at(1, -2)), field(-2, -2, 4, 4),
		cells(at(-5, 2), at(0, 0), at(3, -8)), field(-4, -4, 1, 8)} {
		tidy := slowTidy(l)
		root := from(t, a, l...)
		level, _ := a.Level(mine, root)
		b, some := slowBounds(l)
		for wide := root; level < 12; {
			wide = must(t)(quad.Wrap(a, mine, wide))
			level++
			wantLevel(t, "Wrap", a, wide, level)
			wantCells(t, "Wrap", a, wide, tidy)
			wantBox(t, "Wrap", a, wide, b, some)
			wantId(t, "Peel of Wrap", root)(quad.Peel(a, mine, wide))
		}
	}
}

// A root of level 1 in the middle of one of level 2, by hand.
func TestWrapByHand(t *testing.T) {
	a := build(t, 1000)
	for i := range 16 {
		q := [4]int{i >> 3 & 1, i >> 2 & 1, i >> 1 & 1, i & 1}
		wide := must(t)(quad.Wrap(a, mine, join(t, a, q)))
		wanted := join(t, a, [4]int{
			join(t, a, [4]int{0, 0, 0, q[0]}), join(t, a, [4]int{0, 0, q[1], 0}),
			join(t, a, [4]int{0, q[2], 0, 0}), join(t, a, [4]int{q[3], 0, 0, 0}),
		})
		if wide != wanted {
			t.Errorf("Wrap of %v: %d; want %d", q, wide, wanted)
		}
	}
}

func TestWrapUpToMaxLevel(t *testing.T) {
	a := build(t, 10000)
	c := at(-2, 1)
	root := from(t, a, c)
	wide := root
	for level := 3; level <= api.MaxLevel; level++ {
		wide = must(t)(quad.Wrap(a, mine, wide))
		wantLevel(t, "Wrap", a, wide, level)
	}
	wantCells(t, "of MaxLevel", a, wide, cells(c))
	wantId(t, "Peel of MaxLevel", root)(quad.Peel(a, mine, wide))
	refuse(t, "Wrap of MaxLevel", api.ErrLevel)(quad.Wrap(a, mine, wide))
	refuse(t, "Wrap of an empty MaxLevel", api.ErrLevel)(quad.Wrap(a, mine, must(t)(quad.Empty(a, mine, api.MaxLevel))))
}

func TestPeelOfEmptyAndFullRoots(t *testing.T) {
	a := build(t, 1000)
	none := from(t, a)
	for level := 2; level <= api.MaxLevel; level++ {
		wantId(t, "Peel of nothing", none)(quad.Peel(a, mine, must(t)(quad.Empty(a, mine, level))))
		full := same(t, a, api.Alive, level)
		wantId(t, "Peel of a full root", full)(quad.Peel(a, mine, full))
	}
}

// One cell in the outermost ring keeps a root as it is; one just within it brings it down by one level.
func TestPeelAtTheOutermostRing(t *testing.T) {
	a := build(t, 100000)
	for _, level := range []int{2, 3, 4, 7, 41, api.MaxLevel} {
		n := half(level)
		for _, c := range ring(n) {
			root := putAll(t, a, level, c)
			wantId(t, "a cell in the ring", root)(quad.Peel(a, mine, root))
		}
		if level == 2 {
			continue
		}
		for _, c := range ring(n / 2) {
			root := putAll(t, a, level, c)
			wantId(t, "a cell in half the reach", putAll(t, a, level-1, c))(quad.Peel(a, mine, root))
		}
		for _, c := range cells(at(-n/2-1, 0), at(0, -n/2-1), at(n/2, 0), at(0, n/2)) {
			root := putAll(t, a, level, c)
			wantId(t, "a cell just beyond half the reach", root)(quad.Peel(a, mine, root))
		}
	}
}

// ring is some cells of the outermost ring of what a root reaches: its corners, and places between.
func ring(n int) []api.Cell {
	return cells(at(-n, -n), at(n-1, -n), at(-n, n-1), at(n-1, n-1), at(-n, 0), at(n-1, -1), at(0, -n), at(-1, n-1))
}

func TestPeelIsFrom(t *testing.T) {
	a := build(t, 10000)
	for _, l := range [][]api.Cell{nil, cells(at(1, 1)), cells(at(2, 0)), cells(at(-3, 0)), cells(at(0, 9), at(-1, -1))} {
		root := from(t, a, l...)
		for _, level := range []int{5, 6, 20, api.MaxLevel} {
			wantId(t, "Peel", root)(quad.Peel(a, mine, putAll(t, a, level, l...)))
		}
		wantId(t, "Peel of the least root", root)(quad.Peel(a, mine, root))
	}
}

// P5.5

func TestPut(t *testing.T) {
	a := build(t, 10000)
	root := from(t, a, at(-5, 2), at(0, 0), at(3, -8))
	more := must(t)(quad.Put(a, mine, root, at(-8, 7), true))
	wantLevel(t, "Put alive", a, more, 4)
	wantCells(t, "Put alive", a, more, cells(at(3, -8), at(0, 0), at(-5, 2), at(-8, 7)))
	wantCells(t, "the old root", a, root, cells(at(3, -8), at(0, 0), at(-5, 2)))
	wantId(t, "alive already", more)(quad.Put(a, mine, more, at(-8, 7), true))
	wantId(t, "dead already", root)(quad.Put(a, mine, root, at(-8, 7), false))
	wantId(t, "dead again", root)(quad.Put(a, mine, more, at(-8, 7), false))
	less := must(t)(quad.Put(a, mine, root, at(3, -8), false))
	wantLevel(t, "Put dead", a, less, 4)
	wantCells(t, "Put dead", a, less, cells(at(0, 0), at(-5, 2)))
}

func TestPutEachCellOfSmallRoots(t *testing.T) {
	a := build(t, 10000)
	for _, level := range []int{1, 2, 3} {
		n := half(level)
		all := field(-n, -n, 2*n, 2*n)
		empty, full := must(t)(quad.Empty(a, mine, level)), same(t, a, api.Alive, level)
		for i, c := range all {
			one := must(t)(quad.Put(a, mine, empty, c, true))
			wantLevel(t, "one cell", a, one, level)
			wantCells(t, "one cell", a, one, cells(c))
			wantId(t, "dead again", empty)(quad.Put(a, mine, one, c, false))
			hole := must(t)(quad.Put(a, mine, full, c, false))
			wantLevel(t, "one hole", a, hole, level)
			wantCells(t, "one hole", a, hole, slices.Delete(slices.Clone(all), i, i+1))
			wantId(t, "alive again", full)(quad.Put(a, mine, hole, c, true))
			wantId(t, "dead already", empty)(quad.Put(a, mine, empty, c, false))
			wantId(t, "alive already", full)(quad.Put(a, mine, full, c, true))
		}
	}
}

func TestPutAtTheCornersOfEachLevel(t *testing.T) {
	a := build(t, 100000)
	for level := 1; level <= api.MaxLevel; level++ {
		n := half(level)
		root := must(t)(quad.Empty(a, mine, level))
		for _, c := range cells(at(-n, -n), at(n-1, -n), at(-n, n-1), at(n-1, n-1), at(-n, 0), at(0, n-1)) {
			one := must(t)(quad.Put(a, mine, root, c, true))
			wantLevel(t, "in reach", a, one, level)
			wantCount(t, "in reach", a, one, 1)
			wantBox(t, "in reach", a, one, api.Box{X0: c.X, Y0: c.Y, X1: c.X, Y1: c.Y}, true)
		}
		for _, c := range cells(at(-n-1, 0), at(n, 0), at(0, -n-1), at(0, n), at(n, n), at(-n-1, -n-1),
			at(math.MinInt, 0), at(math.MaxInt, 0), at(0, math.MinInt), at(0, math.MaxInt), at(2*n, 0), at(1<<32, -1<<62)) {
			for _, alive := range []bool{false, true} {
				refuse(t, "out of reach", api.ErrRange)(quad.Put(a, mine, root, c, alive))
			}
		}
	}
}

// What holds of all roots.

func TestRootsOfLevelZero(t *testing.T) {
	a := build(t, 100)
	for _, root := range []int{api.Dead, api.Alive} {
		refuseCells(t, "Cells", api.ErrLevel)(quad.Cells(a, mine, root))
		refuseBox(t, "Box", api.ErrLevel)(quad.Box(a, mine, root))
		refuse(t, "Wrap", api.ErrLevel)(quad.Wrap(a, mine, root))
		refuse(t, "Peel", api.ErrLevel)(quad.Peel(a, mine, root))
		for _, c := range cells(at(0, 0), at(-1, -1), at(9, 9), at(math.MaxInt, math.MinInt)) {
			refuse(t, "Put", api.ErrLevel)(quad.Put(a, mine, root, c, root == api.Dead))
		}
	}
	if n := a.Live(); n != 0 {
		t.Errorf("%d squares were made", n)
	}
}

func TestRootsOfLevelOne(t *testing.T) {
	a := build(t, 100)
	root := join(t, a, [4]int{0, 1, 1, 0})
	wantCells(t, "Cells", a, root, cells(at(0, -1), at(-1, 0)))
	wantBox(t, "Box", a, root, api.Box{X0: -1, Y0: -1, X1: 0, Y1: 0}, true)
	wantId(t, "Wrap", from(t, a, at(0, -1), at(-1, 0)))(quad.Wrap(a, mine, root))
	refuse(t, "Peel", api.ErrLevel)(quad.Peel(a, mine, root))
	refuse(t, "Peel of nothing", api.ErrLevel)(quad.Peel(a, mine, must(t)(quad.Empty(a, mine, 1))))
	refuse(t, "Put out of reach", api.ErrRange)(quad.Put(a, mine, root, at(1, 0), true))
	wantId(t, "Put", join(t, a, [4]int{0, 1, 1, 1}))(quad.Put(a, mine, root, at(0, 0), true))
}

func TestWhatIsNotTheTenantsOwnSquare(t *testing.T) {
	a := build(t, 100)
	root := from(t, a, at(1, 1))
	theirs, e := quad.From(a, other, field(-2, -2, 4, 4))
	if e != api.OK || a.Note(mine, root, 1, 1, root) != api.OK {
		t.Fatalf("not set up")
	}
	live := a.Live()
	// The note was laid last of all.
	note := live + 1
	for _, id := range []int{theirs, note, note + 1, 1 << 32, -1, -2, math.MinInt, math.MaxInt} {
		refuseAll(t, a, mine, id, api.ErrNone)
	}
	for _, tenant := range noTenants() {
		for _, id := range []int{root, theirs, note, api.Dead, api.Alive, -1} {
			refuseAll(t, a, tenant, id, api.ErrNone)
		}
	}
	refuseAll(t, a, other, root, api.ErrNone)
	refuseAll(t, a, 0, root, api.ErrNone)
	for _, tenant := range append(noTenants(), mine) {
		for _, id := range []int{root, api.Dead, api.Alive, -1} {
			refuseAll(t, nil, tenant, id, api.ErrNone)
		}
	}
	if a.Live() != live {
		t.Errorf("%d things became %d", live, a.Live())
	}
	a.Clean(mine, nil)
	refuseAll(t, a, mine, root, api.ErrNone)
}

func TestAnArenaThatNewHasNotBuilt(t *testing.T) {
	var a arena.Arena
	refuse(t, "Empty", api.ErrQuota)(quad.Empty(&a, mine, 1))
	refuse(t, "From", api.ErrQuota)(quad.From(&a, mine, nil))
	refuseAll(t, &a, mine, 2, api.ErrNone)
	wantCount(t, "Alive", &a, api.Alive, 1)
}

// What a tenant may have.

func limit(t *testing.T, a *arena.Arena, n int) {
	t.Helper()
	if e := a.Limit(mine, n); e != api.OK {
		t.Fatalf("Limit(%d): error %d", n, e)
	}
}

// needs is how many squares a call makes, and wants ErrQuota of each tenant that may have fewer, and its answer of one
// that may have so many. First says what the tenant has ahead of the call.
func needs(t *testing.T, what string, first func(a *arena.Arena) int, call func(a *arena.Arena, root int) (int, api.Errno)) int {
	t.Helper()
	a := build(t, 1000)
	root := first(a)
	had := a.Count(mine)
	wanted := must(t)(call(a, root))
	n := a.Count(mine) - had
	for less := range n {
		b := build(t, 1000)
		root := first(b)
		limit(t, b, had+less)
		refuse(t, what, api.ErrQuota)(call(b, root))
		if b.Count(mine) > had+less {
			t.Errorf("%s: it has %d things, and may have %d", what, b.Count(mine), had+less)
		}
		limit(t, b, had+n)
		wantId(t, what+", with more", wanted)(call(b, root))
	}
	return n
}

func TestTooLittle(t *testing.T) {
	l := cells(at(-5, 2), at(0, 0), at(3, -8))
	nothing := func(*arena.Arena) int { return 0 }
	lives := func(a *arena.Arena) int { return from(t, a, l...) }
	wide := func(a *arena.Arena) int {
		root := must(t)(quad.Wrap(a, mine, must(t)(quad.Wrap(a, mine, lives(a)))))
		a.Clean(mine, []int{root})
		return root
	}
	for _, s := range []struct {
		what  string
		first func(a *arena.Arena) int
		call  func(a *arena.Arena, root int) (int, api.Errno)
		least int
	}{
		{"Empty", nothing, func(a *arena.Arena, _ int) (int, api.Errno) { return quad.Empty(a, mine, 9) }, 9},
		{"From", nothing, func(a *arena.Arena, _ int) (int, api.Errno) { return quad.From(a, mine, l) }, 10},
		{"Wrap", lives, func(a *arena.Arena, root int) (int, api.Errno) { return quad.Wrap(a, mine, root) }, 5},
		{"Peel", wide, func(a *arena.Arena, root int) (int, api.Errno) { return quad.Peel(a, mine, root) }, 1},
		{"Put", lives, func(a *arena.Arena, root int) (int, api.Errno) {
			return quad.Put(a, mine, root, at(7, 7), true)
		}, 4},
	} {
		if n := needs(t, s.what, s.first, s.call); n < s.least {
			t.Errorf("%s makes %d squares; its answer has %d new ones at least", s.what, n, s.least)
		}
	}
}

// What is the tenant's own already costs it nothing.
func TestWhatIsThereCostsNothing(t *testing.T) {
	a := build(t, 1000)
	l := cells(at(-5, 2), at(0, 0), at(3, -8))
	root := from(t, a, l...)
	wide := must(t)(quad.Wrap(a, mine, root))
	more := must(t)(quad.Put(a, mine, root, at(7, 7), true))
	limit(t, a, 0)
	wantId(t, "From", root)(quad.From(a, mine, l))
	wantId(t, "Wrap", wide)(quad.Wrap(a, mine, root))
	wantId(t, "Peel", root)(quad.Peel(a, mine, wide))
	wantId(t, "Put", more)(quad.Put(a, mine, root, at(7, 7), true))
	wantId(t, "Put of what is so", root)(quad.Put(a, mine, root, at(0, 0), true))
	must(t)(quad.Empty(a, mine, 3))
	refuse(t, "one cell more", api.ErrQuota)(quad.Put(a, mine, more, at(6, 6), true))
}

// Refused for more than one reason, a call tells the one that the chapter names first.
func TestWhichErrorComesFirst(t *testing.T) {
	a := build(t, 200)
	root := from(t, a, at(1, 1))
	top := putAll(t, a, api.MaxLevel, at(1, 1))
	limit(t, a, 0)
	refuse(t, "Empty", api.ErrLevel)(quad.Empty(a, mine, api.MaxLevel+1))
	refuse(t, "From", api.ErrRange)(quad.From(a, mine, cells(at(api.MaxCoord, 0))))
	refuse(t, "Wrap", api.ErrLevel)(quad.Wrap(a, mine, top))
	refuse(t, "Wrap of another's", api.ErrNone)(quad.Wrap(a, other, top))
	refuse(t, "Peel", api.ErrLevel)(quad.Peel(a, mine, 1))
	refuse(t, "Put out of reach", api.ErrRange)(quad.Put(a, mine, root, at(2, 0), true))
	refuse(t, "Put out of reach of level 0", api.ErrLevel)(quad.Put(a, mine, 0, at(2, 0), true))
	refuse(t, "Put out of reach of another's", api.ErrNone)(quad.Put(a, other, root, at(2, 0), true))
	refuse(t, "Put", api.ErrQuota)(quad.Put(a, mine, root, at(-2, 0), true))
}

func TestAFullArena(t *testing.T) {
	a := build(t, 3)
	root := must(t)(quad.Empty(a, 0, 2))
	if _, e := a.Join(0, [4]int{1, 1, 1, 1}); e != api.OK {
		t.Fatalf("not set up: error %d", e)
	}
	refuse(t, "From", api.ErrFull)(quad.From(a, mine, cells(at(1, 1))))
	refuse(t, "Empty", api.ErrFull)(quad.Empty(a, mine, 3))
	refuse(t, "Wrap", api.ErrFull)(quad.Wrap(a, mine, root))
	refuse(t, "Put", api.ErrFull)(quad.Put(a, mine, root, at(0, 0), true))
}

// Tenants beside each other.

func TestTwoTenantsWithTheSameCells(t *testing.T) {
	a, alone := build(t, 1000), build(t, 1000)
	l := cells(at(-5, 2), at(0, 0), at(3, -8))
	root := from(t, a, l...)
	n := a.Live()
	theirs, e := quad.From(a, other, l)
	if theirs != root || e != api.OK || a.Live() != n {
		t.Errorf("the same cells: %d, error %d, %d things; want %d, %d things", theirs, e, a.Live(), root, n)
	}
	from(t, alone, l...)
	for _, tenant := range []int{mine, other} {
		if a.Count(tenant) != alone.Count(mine) {
			t.Errorf("tenant %d pays for %d; alone it would pay for %d", tenant, a.Count(tenant), alone.Count(mine))
		}
	}
	a.Clean(mine, nil)
	if again, e := quad.Cells(a, other, theirs); e != api.OK || len(again) != 3 {
		t.Errorf("the other's cells: %v, error %d", again, e)
	}
	refuseAll(t, a, mine, root, api.ErrNone)
}

// With others in the arena a tenant pays for as much, and is refused where it was, as without them.
func TestOthersAreNotToBeSeen(t *testing.T) {
	l := cells(at(-5, 2), at(0, 0), at(3, -8), at(30, 30))
	for most := range 40 {
		alone, beside := build(t, 1000), build(t, 1000)
		theirs, _ := quad.From(beside, other, append(slices.Clone(l), at(2, 2)))
		quad.From(beside, other, l[:2])
		quad.Wrap(beside, other, theirs)
		quad.Empty(beside, other, 6)
		var told [2][]int
		for i, a := range []*arena.Arena{alone, beside} {
			limit(t, a, most)
			told[i] = lookAround(a, l)
		}
		if !slices.Equal(told[0], told[1]) {
			t.Fatalf("may have %d: told %v alone, %v beside others", most, told[0], told[1])
		}
	}
}

// lookAround is what a tenant is told, but for the numbers of squares.
func lookAround(a *arena.Arena, l []api.Cell) []int {
	root, e := quad.From(a, mine, l)
	told := []int{int(e), a.Count(mine)}
	for range 3 {
		var f api.Errno
		wide, e := quad.Wrap(a, mine, root)
		told = append(told, int(e), a.Count(mine))
		if root, f = quad.Put(a, mine, wide, at(2, 2), true); f == api.OK {
			n, _ := quad.Count(a, mine, root)
			told = append(told, n)
		}
		_, g := quad.Peel(a, mine, root)
		told = append(told, int(f), int(g), a.Count(mine))
	}
	return told
}
