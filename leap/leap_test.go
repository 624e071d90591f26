package leap_test

import (
	"math"
	"math/rand"
	"slices"
	"testing"

	"lifelodge/api"
	"lifelodge/arena"
	"lifelodge/leap"
	"lifelodge/plane"
	"lifelodge/quad"
	"lifelodge/rule"
)

const (
	mine  = 7
	other = api.Tenants - 1
	most  = api.MaxLevel - 2 // the greatest level of a root that leaps
)

// Rules by name: life, and some in which cells go on in plain ways.
var (
	life  = api.Rule{Born: 1 << 3, Live: 1<<2 | 1<<3}
	none  = api.Rule{}                     // nothing is born, nothing stays
	still = api.Rule{Live: 511}            // what lives stays, nothing is born
	ring  = api.Rule{Born: 1 << 1}         // a lone cell becomes its 8 neighbours
	flood = api.Rule{Born: 510, Live: 511} // what lives stays, and its neighbours are born
	odd   = api.Rule{Born: 170, Live: 170} // 2^k steps later a cell is 8 cells, 2^k away from it
)

func goodRules() []api.Rule {
	l := []api.Rule{life, none, still, ring, flood, odd}
	for _, s := range []string{"B36/S23", "B2/S", "B3/S", "B/S23", "B1/S1", "B8/S8", "B3678/S34678", "B5678/S45678",
		"B2/S0", "B12345678/S", "B4/S01234"} {
		r, e := rule.Read(s)
		if e != api.OK {
			panic(s)
		}
		l = append(l, r)
	}
	return l
}

// badRules are none, each for a reason of its own.
func badRules() []api.Rule {
	return []api.Rule{
		{Born: 1}, {Born: 9, Live: 12}, {Born: 511}, {Born: 512}, {Born: 520, Live: 12}, {Born: -1}, {Born: -2},
		{Born: math.MaxInt}, {Born: math.MinInt}, {Born: 8, Live: 512}, {Born: 8, Live: -1},
		{Born: 8, Live: math.MaxInt}, {Born: 8, Live: math.MinInt},
	}
}

func noTenants() []int { return []int{-1, api.Tenants, 1 << 32, math.MinInt, math.MaxInt} }

func at(x, y int) api.Cell { return api.Cell{X: x, Y: y} }

func cells(l ...api.Cell) []api.Cell { return l }

func rod() []api.Cell { return cells(at(0, 0), at(1, 0), at(2, 0)) }

func block() []api.Cell { return cells(at(0, 0), at(1, 0), at(0, 1), at(1, 1)) }

// glider goes one to the east and one to the south in four steps of life.
func glider() []api.Cell { return cells(at(1, 0), at(2, 1), at(0, 2), at(1, 2), at(2, 2)) }

// ship goes two to the east in four steps of life.
func ship() []api.Cell {
	return cells(at(0, 0), at(3, 0), at(4, 1), at(0, 2), at(4, 2), at(1, 3), at(2, 3), at(3, 3), at(4, 3))
}

// restless is few cells that are many for more than a thousand steps of life.
func restless() []api.Cell { return cells(at(1, 0), at(2, 0), at(0, 1), at(1, 1), at(1, 2)) }

// half is how far a root of a level reaches to the west and the north.
func half(level int) int { return 1 << (level - 1) }

// turned is the cells by another look at the plane: bit 0 of way turns the west to the east, bit 1 the north to the
// south, bit 2 makes rows of columns.
func turned(l []api.Cell, way int) []api.Cell {
	l = slices.Clone(l)
	for i, c := range l {
		if way&4 != 0 {
			c.X, c.Y = c.Y, c.X
		}
		if way&1 != 0 {
			c.X = -c.X
		}
		if way&2 != 0 {
			c.Y = -c.Y
		}
		l[i] = c
	}
	return l
}

func moved(l []api.Cell, x, y int) []api.Cell {
	l = slices.Clone(l)
	for i := range l {
		l[i] = at(l[i].X+x, l[i].Y+y)
	}
	return l
}

func build(t *testing.T, room int) *arena.Arena {
	t.Helper()
	a, e := arena.New(room)
	if e != api.OK {
		t.Fatalf("New(%d): error %d", room, e)
	}
	return a
}

// must is the answer of a call that may not be refused.
func must(t *testing.T) func(id int, e api.Errno) int {
	return func(id int, e api.Errno) int {
		t.Helper()
		if e != api.OK {
			t.Fatalf("refused: error %d", e)
		}
		return id
	}
}

func from(t *testing.T, a *arena.Arena, l ...api.Cell) int {
	t.Helper()
	return must(t)(quad.From(a, mine, l))
}

// putAll is an empty root of a level with cells put into it.
func putAll(t *testing.T, a *arena.Arena, level int, l ...api.Cell) int {
	t.Helper()
	root := must(t)(quad.Empty(a, mine, level))
	for _, c := range l {
		root = must(t)(quad.Put(a, mine, root, c, true))
	}
	return root
}

// full is the root of a level in which everything lives.
func full(t *testing.T, a *arena.Arena, level int) int {
	t.Helper()
	id := api.Alive
	for range level {
		id = must(t)(a.Join(mine, [4]int{id, id, id, id}))
	}
	return id
}

func limit(t *testing.T, a *arena.Arena, tenant, n int) {
	t.Helper()
	if e := a.Limit(tenant, n); e != api.OK {
		t.Fatalf("Limit(%d, %d): error %d", tenant, n, e)
	}
}

func wantLevel(t *testing.T, what string, a *arena.Arena, id, wanted int) {
	t.Helper()
	if n, e := a.Level(mine, id); n != wanted || e != api.OK {
		t.Errorf("%s: level %d, error %d; want level %d", what, n, e, wanted)
	}
}

func wantBox(t *testing.T, what string, a *arena.Arena, root int, wanted api.Box) {
	t.Helper()
	if b, ok, e := quad.Box(a, mine, root); b != wanted || !ok || e != api.OK {
		t.Errorf("%s: box %v, %v, error %d; want %v", what, b, ok, e, wanted)
	}
}

// wantId wants what a call answered to be a square.
func wantId(t *testing.T, what string, wanted int) func(id int, e api.Errno) {
	return func(id int, e api.Errno) {
		t.Helper()
		if id != wanted || e != api.OK {
			t.Errorf("%s: %d, error %d; want %d", what, id, e, wanted)
		}
	}
}

func refuse(t *testing.T, what string, wanted api.Errno) func(id int, e api.Errno) {
	return func(id int, e api.Errno) {
		t.Helper()
		if id != 0 || e != wanted {
			t.Errorf("%s: %d, error %d; want 0, error %d", what, id, e, wanted)
		}
	}
}

// wantCells wants what a call answered to be the least root of the cells.
func wantCells(t *testing.T, what string, a *arena.Arena, wanted []api.Cell) func(id int, e api.Errno) {
	return func(id int, e api.Errno) {
		t.Helper()
		if e != api.OK {
			t.Errorf("%s: error %d; want %v", what, e, wanted)
			return
		}
		if l, _ := quad.Cells(a, mine, id); id != from(t, a, wanted...) {
			n, _ := a.Level(mine, id)
			t.Errorf("%s: %v, level %d; want %v", what, l, n, wanted)
		}
	}
}

// history is the cells after 0, 1, .. plain steps, up to MaxRun, or as long as there are not too many for a quick test.
func history(r api.Rule, l []api.Cell) [][]api.Cell {
	l, e := plane.Tidy(l)
	var all [][]api.Cell
	for e == api.OK && len(l) < 1000 && len(all) <= api.MaxRun {
		all = append(all, l)
		l, e = rule.Next(r, l)
	}
	return all
}

// P6.1

// Each cell with each kind of neighbours.
func TestLeapOfAllNeighbourhoods(t *testing.T) {
	for _, r := range goodRules() {
		a := build(t, api.MaxRoom)
		for set := range 512 {
			var l []api.Cell
			for i := range 9 {
				if set>>i&1 == 1 {
					l = append(l, at(i%3-1, i/3-1))
				}
			}
			wanted, _ := rule.Next(r, l)
			wantCells(t, "Leap", a, wanted)(leap.Leap(a, mine, r, from(t, a, l...), 0))
		}
		if t.Failed() {
			t.Fatalf("rule %v", r)
		}
	}
}

func TestLeapAgainstRun(t *testing.T) {
	for _, l := range [][]api.Cell{nil, cells(at(0, 0)), cells(at(-1, -1)), rod(), block(), glider(), ship(), restless(),
		moved(restless(), -30, 17), moved(turned(ship(), 5), 1000, -70000)} {
		for _, r := range goodRules() {
			a := build(t, api.MaxRoom)
			root := from(t, a, l...)
			all := history(r, l)
			for j := 0; 1<<j < len(all); j++ {
				wantCells(t, "Leap", a, all[1<<j])(leap.Leap(a, mine, r, root, j))
			}
			if t.Failed() {
				t.Fatalf("cells %v, rule %v", l, r)
			}
		}
	}
}

// What a leap answers hangs on how many steps it is, and not on leaps ahead of it.
func TestLeapInAnyOrder(t *testing.T) {
	a := build(t, api.MaxRoom)
	root := from(t, a, restless()...)
	rules := []api.Rule{life, odd, {Born: life.Born, Live: life.Born}, {Born: 12, Live: life.Born}, {Born: life.Live, Live: 12}}
	var all [][][]api.Cell
	for _, r := range rules {
		all = append(all, history(r, restless()))
	}
	for _, j := range []int{8, 3, 0, 5, 8, 1, 0, 2, 7, 4, 6, 3} {
		for i, r := range rules {
			if 1<<j < len(all[i]) {
				wantCells(t, "Leap", a, all[i][1<<j])(leap.Leap(a, mine, r, root, j))
			}
		}
	}
}

func TestLeapOfNothing(t *testing.T) {
	a := build(t, api.MaxRoom)
	nothing := from(t, a)
	for _, r := range goodRules() {
		for _, j := range []int{0, 1, 2, 17, api.MaxLeap} {
			for _, level := range []int{2, 3, 20, most} {
				root := must(t)(quad.Empty(a, mine, level))
				wantId(t, "nothing", nothing)(leap.Leap(a, mine, r, root, j))
			}
		}
	}
}

// A root of more than the least level is told as the least one is.
func TestLeapOfWideRoots(t *testing.T) {
	a := build(t, api.MaxRoom)
	for _, r := range []api.Rule{life, none, still, odd} {
		for _, j := range []int{0, 1, 2, 5, api.MaxLeap} {
			wanted, e := leap.Leap(a, mine, r, from(t, a, glider()...), j)
			for _, level := range []int{3, 4, 5, 9, 33, most - 1, most} {
				wantId(t, "a wide root", wanted)(leap.Leap(a, mine, r, putAll(t, a, level, glider()...), j))
			}
			if e != api.OK {
				t.Errorf("refused: error %d", e)
			}
		}
	}
}

// outermost is cells of the outermost ring of what a root reaches: its corners, and places between.
func outermost(level int) []api.Cell {
	n := half(level)
	return cells(at(-n, -n), at(n-1, -n), at(-n, n-1), at(n-1, n-1), at(-n, 0), at(n-1, -1), at(0, -n), at(-1, n-1))
}

func TestLeapAtTheOutermostRing(t *testing.T) {
	for _, level := range []int{2, 3, 4, 5, 12, 40} {
		a := build(t, api.MaxRoom)
		for _, c := range outermost(level) {
			for _, r := range []api.Rule{flood, ring, still, none} {
				for j := range 5 {
					wanted, e := rule.Run(r, cells(c), 1<<j)
					if e != api.OK {
						t.Fatalf("not set up: error %d", e)
					}
					wantCells(t, "one cell", a, wanted)(leap.Leap(a, mine, r, from(t, a, c), j))
				}
			}
		}
		wanted, _ := rule.Run(flood, outermost(level), 4)
		wantCells(t, "all of them", a, wanted)(leap.Leap(a, mine, flood, from(t, a, outermost(level)...), 2))
	}
}

// Cells that flood all places around go as far as they can in 2^j steps, and no farther.
func TestLeapsOfAllSizes(t *testing.T) {
	a := build(t, api.MaxRoom)
	for j := range api.MaxLeap + 1 {
		n := 1 << j
		root := must(t)(leap.Leap(a, mine, flood, from(t, a, at(5, -6)), j))
		wantBox(t, "a flood", a, root, api.Box{X0: 5 - n, Y0: -6 - n, X1: 5 + n, Y1: -6 + n})
		if count, e := quad.Count(a, mine, root); j < 30 && (count != (2*n+1)*(2*n+1) || e != api.OK) {
			t.Errorf("a flood of 2^%d steps: %d cells, error %d", j, count, e)
		}
		around := cells(at(-n, -n), at(0, -n), at(n, -n), at(-n, 0), at(n, 0), at(-n, n), at(0, n), at(n, n))
		wantCells(t, "eight away", a, around)(leap.Leap(a, mine, odd, from(t, a, at(0, 0)), j))
		wantCells(t, "a lone cell", a, nil)(leap.Leap(a, mine, life, from(t, a, at(0, 0)), j))
	}
}

// One cell at each end of what a root of the greatest level that leaps reaches; it goes beyond it.
func TestLeapOfTheGreatestLevel(t *testing.T) {
	for _, j := range []int{0, 1, 7, api.MaxLeap} {
		a := build(t, api.MaxRoom)
		n := 1 << j
		for _, c := range outermost(most) {
			root := putAll(t, a, most, c)
			got := must(t)(leap.Leap(a, mine, flood, root, j))
			wantLevel(t, "a flood beyond", a, got, most+1)
			wantBox(t, "a flood beyond", a, got, api.Box{X0: c.X - n, Y0: c.Y - n, X1: c.X + n, Y1: c.Y + n})
			wantId(t, "what stays", root)(leap.Leap(a, mine, still, root, j))
			wantCells(t, "what dies", a, nil)(leap.Leap(a, mine, none, root, j))
		}
		far := half(most)
		got := must(t)(leap.Leap(a, mine, flood, full(t, a, most), j))
		wantBox(t, "all places", a, got, api.Box{X0: -far - n, Y0: -far - n, X1: far - 1 + n, Y1: far - 1 + n})
		wantId(t, "all places stay", full(t, a, most))(leap.Leap(a, mine, still, full(t, a, most), j))
	}
}

func TestLeapRefuses(t *testing.T) {
	a := build(t, 10000)
	root := from(t, a, rod()...)
	had := a.Count(mine)
	for _, r := range badRules() {
		for _, j := range []int{0, 3, -1, api.MaxLeap + 1} {
			refuse(t, "a rule that is not good", api.ErrKind)(leap.Leap(a, mine, r, root, j))
			refuse(t, "such a rule, no square", api.ErrKind)(leap.Leap(a, mine, r, -1, j))
			refuse(t, "such a rule, no tenant", api.ErrKind)(leap.Leap(a, -1, r, root, j))
			refuse(t, "such a rule, no arena", api.ErrKind)(leap.Leap(nil, mine, r, root, j))
		}
	}
	for _, j := range []int{-1, api.MaxLeap + 1, 62, 63, 64, 1 << 32, math.MinInt, math.MaxInt} {
		refuse(t, "a wrong j", api.ErrRange)(leap.Leap(a, mine, life, root, j))
		refuse(t, "a wrong j, no square", api.ErrRange)(leap.Leap(a, mine, life, 1<<20, j))
		refuse(t, "a wrong j, level 0", api.ErrRange)(leap.Leap(a, mine, life, api.Alive, j))
		refuse(t, "a wrong j, no tenant", api.ErrRange)(leap.Leap(a, api.Tenants, life, root, j))
		refuse(t, "a wrong j, no arena", api.ErrRange)(leap.Leap(nil, mine, life, root, j))
	}
	if a.Count(mine) != had {
		t.Errorf("%d things became %d", had, a.Count(mine))
	}
}

func TestLeapRefusesLevels(t *testing.T) {
	a := build(t, 10000)
	var wrong []int
	for i := range 16 {
		wrong = append(wrong, must(t)(a.Join(mine, [4]int{i >> 3 & 1, i >> 2 & 1, i >> 1 & 1, i & 1})))
	}
	for _, level := range []int{api.MaxLevel - 1, api.MaxLevel} {
		wrong = append(wrong, putAll(t, a, level), putAll(t, a, level, at(0, 0)), putAll(t, a, level, outermost(level)...),
			full(t, a, level))
	}
	wrong = append(wrong, api.Dead, api.Alive)
	had := a.Count(mine)
	limit(t, a, mine, 0)
	for _, root := range wrong {
		for _, j := range []int{0, 1, api.MaxLeap} {
			refuse(t, "a wrong level", api.ErrLevel)(leap.Leap(a, mine, life, root, j))
		}
	}
	if a.Count(mine) != had {
		t.Errorf("%d things became %d", had, a.Count(mine))
	}
}

// P6.2

func someSteps() []int {
	return []int{0, 1, 2, 3, 4, 5, 6, 7, 8, 9, 15, 16, 17, 31, 32, 33, 63, 64, 65, 100, 127, 128, 129, 255, api.MaxRun}
}

func TestStepsAgainstRun(t *testing.T) {
	for _, l := range [][]api.Cell{nil, cells(at(0, 0)), rod(), glider(), moved(restless(), 3, -9), moved(ship(), -4000, 1)} {
		for _, r := range goodRules() {
			a := build(t, api.MaxRoom)
			root := from(t, a, l...)
			all := history(r, l)
			for _, n := range someSteps() {
				if n < len(all) {
					wantCells(t, "Steps", a, all[n])(leap.Steps(a, mine, r, root, n))
				}
			}
			if t.Failed() {
				t.Fatalf("cells %v, rule %v", l, r)
			}
		}
	}
}

// Any rules, and any cells in a field of any size, anywhere.
func TestStepsOfAnything(t *testing.T) {
	for seed := range 80 {
		r := rand.New(rand.NewSource(int64(seed)))
		drawn := api.Rule{Born: r.Intn(256) * 2, Live: r.Intn(512)}
		size, x, y := 1+r.Intn(40), r.Intn(200)-100, r.Intn(1<<40)-1<<39
		l := make([]api.Cell, r.Intn(size*size))
		for i := range l {
			l[i] = at(x+r.Intn(size), y+r.Intn(size))
		}
		a := build(t, api.MaxRoom)
		root := from(t, a, l...)
		all := history(drawn, l)
		for _, n := range []int{len(all) - 1, r.Intn(len(all) + 1), r.Intn(len(all) + 1)} {
			if n >= 0 && n < len(all) {
				wantCells(t, "Steps", a, all[n])(leap.Steps(a, mine, drawn, root, n))
			}
		}
		if t.Failed() {
			t.Fatalf("seed %d", seed)
		}
	}
}

func TestStepsAndLeapsAreTheSame(t *testing.T) {
	a := build(t, api.MaxRoom)
	for _, l := range [][]api.Cell{nil, rod(), glider(), turned(ship(), 3)} {
		for _, r := range []api.Rule{life, still, odd} {
			root := from(t, a, l...)
			for j := range api.MaxLeap + 1 {
				wantId(t, "2^j steps", must(t)(leap.Leap(a, mine, r, root, j)))(leap.Steps(a, mine, r, root, 1<<j))
			}
		}
	}
}

// No steps at all bring a root of any level down to the least one.
func TestNoSteps(t *testing.T) {
	a := build(t, 100000)
	for _, r := range []api.Rule{life, none, flood} {
		for level := 2; level <= api.MaxLevel; level++ {
			wantId(t, "nothing", from(t, a))(leap.Steps(a, mine, r, putAll(t, a, level), 0))
			wantId(t, "one cell", from(t, a, at(-2, 1)))(leap.Steps(a, mine, r, putAll(t, a, level, at(-2, 1)), 0))
			edges := putAll(t, a, level, outermost(level)...)
			wantId(t, "the outermost ring", edges)(leap.Steps(a, mine, r, edges, 0))
		}
	}
}

func TestWhatDiesAndWhatStays(t *testing.T) {
	a := build(t, api.MaxRoom)
	dies := cells(at(0, 0), at(1, 1))
	for _, n := range []int{1, 2, 3, 1023, 1024, 1025, 4000001, api.MaxSteps - 1, api.MaxSteps} {
		wantCells(t, "two cells", a, nil)(leap.Steps(a, mine, life, from(t, a, dies...), n))
		wantCells(t, "a block", a, moved(block(), 7, -9))(leap.Steps(a, mine, life, from(t, a, moved(block(), 7, -9)...), n))
		wanted := rod()
		if n%2 == 1 {
			wanted = cells(at(1, -1), at(1, 0), at(1, 1))
		}
		wantCells(t, "a rod", a, wanted)(leap.Steps(a, mine, life, from(t, a, rod()...), n))
		wantCells(t, "any cells", a, ship())(leap.Steps(a, mine, still, from(t, a, ship()...), n))
		wantCells(t, "any cells", a, nil)(leap.Steps(a, mine, none, from(t, a, ship()...), n))
	}
}

// Gliders and ships go away to all sides.
func TestWhatMovesAway(t *testing.T) {
	for way := range 8 {
		a := build(t, api.MaxRoom)
		for _, n := range []int{1, 2, 3, 10, 255, 256, 257, 1000000, api.MaxSteps / 4} {
			wanted := turned(moved(glider(), n, n), way)
			wantCells(t, "a glider", a, wanted)(leap.Steps(a, mine, life, from(t, a, turned(glider(), way)...), 4*n))
			wanted = turned(moved(ship(), 2*n, 0), way)
			wantCells(t, "a ship", a, wanted)(leap.Steps(a, mine, life, from(t, a, turned(ship(), way)...), 4*n))
		}
	}
}

func TestStepsAfterSteps(t *testing.T) {
	a := build(t, api.MaxRoom)
	many := append(append(glider(), moved(turned(ship(), 6), 300, 40)...), moved(rod(), -8, -8)...)
	for _, s := range []struct {
		r api.Rule
		l []api.Cell
	}{{life, restless()}, {life, many}, {odd, cells(at(0, 0), at(1, 0))}, {flood, cells(at(3, 3))}} {
		root := from(t, a, s.l...)
		for _, n := range [][2]int{{0, 0}, {0, 7}, {7, 0}, {1, 1}, {1, 2}, {3, 5}, {100, 155}, {255, 1}, {511, 513}, {700, 700}} {
			first := must(t)(leap.Steps(a, mine, s.r, root, n[0]))
			wanted := must(t)(leap.Steps(a, mine, s.r, root, n[0]+n[1]))
			wantId(t, "n steps, then m", wanted)(leap.Steps(a, mine, s.r, first, n[1]))
		}
	}
	root := from(t, a, many...)
	first := must(t)(leap.Steps(a, mine, life, root, 123456789))
	wanted := must(t)(leap.Steps(a, mine, life, root, 1000000000))
	wantId(t, "many steps, then more", wanted)(leap.Steps(a, mine, life, first, 1000000000-123456789))
}

// The same cells at other places become the same ones, at other places.
func TestStepsOfMovedCells(t *testing.T) {
	for _, by := range []api.Cell{at(1, 0), at(0, 1), at(-1, -1), at(2, -3), at(-17, 100), at(12345, -54321), at(1<<39, -(1<<39)+5)} {
		a := build(t, api.MaxRoom)
		for _, n := range []int{1, 2, 13, 128, 250} {
			for _, r := range []api.Rule{life, odd} {
				l, e := quad.Cells(a, mine, must(t)(leap.Steps(a, mine, r, from(t, a, restless()...), n)))
				if e != api.OK {
					continue
				}
				root := from(t, a, moved(restless(), by.X, by.Y)...)
				wantCells(t, "moved", a, moved(l, by.X, by.Y))(leap.Steps(a, mine, r, root, n))
			}
		}
	}
}

// A few cells, and more steps than could be gone one by one.
func TestMillionsOfSteps(t *testing.T) {
	a := build(t, api.MaxRoom)
	ended := must(t)(leap.Steps(a, mine, life, from(t, a, restless()...), 4000000))
	if n, e := quad.Count(a, mine, ended); n != 116 || e != api.OK {
		t.Errorf("restless cells: %d, error %d; want 116", n, e)
	}
	a = build(t, 5000)
	wantCells(t, "a glider", a, moved(glider(), 1000000, 1000000))(leap.Steps(a, mine, life, from(t, a, glider()...), 4000000))
	a = build(t, 20000)
	wanted := must(t)(leap.Steps(a, mine, odd, from(t, a, at(0, 0)), 5))
	l, _ := quad.Cells(a, mine, wanted)
	n := 1 << 22
	var far []api.Cell
	for _, by := range cells(at(-n, -n), at(0, -n), at(n, -n), at(-n, 0), at(n, 0), at(-n, n), at(0, n), at(n, n)) {
		far = append(far, moved(l, by.X, by.Y)...)
	}
	wantCells(t, "eight away", a, far)(leap.Steps(a, mine, odd, from(t, a, at(0, 0)), n+5))
}

// Below the greatest level that leaps a root's own level is no matter: only its cells' reach is.
func TestStepsOfWideRoots(t *testing.T) {
	a := build(t, api.MaxRoom)
	for _, level := range []int{3, 20, most, api.MaxLevel - 1, api.MaxLevel} {
		for _, n := range []int{1, 2, 3, 100, api.MaxSteps} {
			wanted := must(t)(leap.Steps(a, mine, life, from(t, a, glider()...), n))
			wantId(t, "a wide root", wanted)(leap.Steps(a, mine, life, putAll(t, a, level, glider()...), n))
			wantCells(t, "a wide root of nothing", a, nil)(leap.Steps(a, mine, life, putAll(t, a, level), n))
		}
	}
	for _, c := range outermost(most) {
		wantId(t, "as far as can be", putAll(t, a, most, c))(leap.Steps(a, mine, still, putAll(t, a, api.MaxLevel, c), 3))
	}
}

func TestTooFarAtTheBeginning(t *testing.T) {
	a := build(t, api.MaxRoom)
	n := half(most)
	for _, c := range cells(at(-n-1, 0), at(0, -n-1), at(n, 0), at(0, n), at(n, -n), at(-n-1, n-1)) {
		least := putAll(t, a, most+1, c)
		wide := putAll(t, a, api.MaxLevel, c)
		for _, r := range []api.Rule{life, none, still, flood} {
			for _, steps := range []int{1, 2, 3, api.MaxSteps} {
				refuse(t, "too far", api.ErrLevel)(leap.Steps(a, mine, r, least, steps))
				refuse(t, "too far, wide", api.ErrLevel)(leap.Steps(a, mine, r, wide, steps))
			}
			wantId(t, "no steps", least)(leap.Steps(a, mine, r, wide, 0))
		}
	}
	for _, level := range []int{api.MaxLevel - 1, api.MaxLevel} {
		refuse(t, "all places", api.ErrLevel)(leap.Steps(a, mine, none, full(t, a, level), 1))
	}
}

// A leap may go beyond what a root that leaps reaches, and there is none after it.
func TestTooFarOnTheWay(t *testing.T) {
	for _, c := range outermost(most) {
		a := build(t, api.MaxRoom)
		root := putAll(t, a, most, c)
		had := a.Count(mine)
		for _, n := range []int{3, 5, 6, 7, 1<<20 + 1, api.MaxSteps - 1} {
			refuse(t, "two leaps", api.ErrLevel)(leap.Steps(a, mine, flood, root, n))
			refuse(t, "two leaps", api.ErrLevel)(leap.Steps(a, mine, ring, root, n))
			if a.Count(mine) != had {
				t.Fatalf("%d things became %d", had, a.Count(mine))
			}
		}
		for _, n := range []int{1, 2, 4, 1 << 20, api.MaxSteps} {
			got := must(t)(leap.Steps(a, mine, flood, root, n))
			wantLevel(t, "one leap", a, got, most+1)
			wantBox(t, "one leap", a, got, api.Box{X0: c.X - n, Y0: c.Y - n, X1: c.X + n, Y1: c.Y + n})
		}
		wantCells(t, "it dies", a, nil)(leap.Steps(a, mine, none, root, 7))
		wantId(t, "it stays", root)(leap.Steps(a, mine, still, root, 7))
	}
}

func inwards(n int) int {
	if n < 0 {
		return n + 1
	}
	return n - 1
}

// By the bits of n, the lowest first: where a flood is when the last leap begins says whether there is one.
func TestTheLowestBitsComeFirst(t *testing.T) {
	a := build(t, api.MaxRoom)
	for _, c := range outermost(most) {
		c = at(inwards(c.X), inwards(c.Y))
		root := putAll(t, a, most, c)
		for _, n := range []int{1, 2, 3, 5, 9, 1<<29 + 1, api.MaxSteps} {
			got := must(t)(leap.Steps(a, mine, flood, root, n))
			wantBox(t, "not too far", a, got, api.Box{X0: c.X - n, Y0: c.Y - n, X1: c.X + n, Y1: c.Y + n})
		}
		for _, n := range []int{6, 7, 10, 1<<29 + 2, api.MaxSteps - 1} {
			refuse(t, "too far", api.ErrLevel)(leap.Steps(a, mine, flood, root, n))
		}
	}
}

// A glider that goes inwards from the end of a root, and one that goes outwards.
func TestGlidersAtTheGreatestLevel(t *testing.T) {
	a := build(t, api.MaxRoom)
	far := half(most) - 3
	root := putAll(t, a, most, moved(glider(), far, far)...)
	got := must(t)(leap.Steps(a, mine, life, root, 4))
	wantBox(t, "outwards", a, got, api.Box{X0: far + 1, Y0: far + 1, X1: far + 3, Y1: far + 3})
	refuse(t, "outwards, too far", api.ErrLevel)(leap.Steps(a, mine, life, root, 12))
	root = putAll(t, a, most, moved(turned(glider(), 3), far+2, far+2)...)
	for _, n := range []int{1, 3, 1000003, api.MaxSteps / 4} {
		got := must(t)(leap.Steps(a, mine, life, root, 4*n))
		wantBox(t, "inwards", a, got, api.Box{X0: far - n, Y0: far - n, X1: far + 2 - n, Y1: far + 2 - n})
	}
}

func TestStepsRefuses(t *testing.T) {
	a := build(t, 10000)
	root := from(t, a, rod()...)
	had := a.Count(mine)
	for _, n := range []int{-1, api.MaxSteps + 1, 1 << 32, math.MinInt, math.MaxInt} {
		refuse(t, "a wrong n", api.ErrRange)(leap.Steps(a, mine, life, root, n))
		refuse(t, "a wrong n, no square", api.ErrRange)(leap.Steps(a, mine, life, -1, n))
		refuse(t, "a wrong n, level 0", api.ErrRange)(leap.Steps(a, mine, life, api.Dead, n))
		refuse(t, "a wrong n, no tenant", api.ErrRange)(leap.Steps(a, -1, life, root, n))
		refuse(t, "a wrong n, no arena", api.ErrRange)(leap.Steps(nil, mine, life, root, n))
		for _, r := range badRules() {
			refuse(t, "a wrong n, a rule that is not good", api.ErrRange)(leap.Steps(a, mine, r, root, n))
		}
	}
	for _, r := range badRules() {
		for _, n := range []int{0, 1, 5, api.MaxSteps} {
			refuse(t, "a rule that is not good", api.ErrKind)(leap.Steps(a, mine, r, root, n))
			refuse(t, "such a rule, no square", api.ErrKind)(leap.Steps(a, mine, r, 1<<20, n))
			refuse(t, "such a rule, level 0", api.ErrKind)(leap.Steps(a, mine, r, api.Alive, n))
			refuse(t, "such a rule, no tenant", api.ErrKind)(leap.Steps(a, api.Tenants, r, root, n))
			refuse(t, "such a rule, no arena", api.ErrKind)(leap.Steps(nil, mine, r, root, n))
		}
	}
	one := must(t)(a.Join(mine, [4]int{0, 1, 1, 0}))
	limit(t, a, mine, 0)
	for _, low := range []int{api.Dead, api.Alive, one} {
		for _, n := range []int{0, 1, 5, api.MaxSteps} {
			refuse(t, "a level below 2", api.ErrLevel)(leap.Steps(a, mine, life, low, n))
		}
	}
	if a.Count(mine) != had+1 {
		t.Errorf("%d things became %d", had+1, a.Count(mine))
	}
}

// What holds of both.

func refuseBoth(t *testing.T, what string, a *arena.Arena, tenant, root int, wanted api.Errno) {
	t.Helper()
	for _, r := range []api.Rule{life, none, flood} {
		for _, n := range []int{0, 1, api.MaxLeap} {
			refuse(t, "Leap: "+what, wanted)(leap.Leap(a, tenant, r, root, n))
			refuse(t, "Steps: "+what, wanted)(leap.Steps(a, tenant, r, root, n))
		}
	}
}

func TestWhatIsNotTheTenantsOwnSquare(t *testing.T) {
	a := build(t, 100)
	root := from(t, a, at(1, 1))
	theirs, e := quad.From(a, other, rod())
	if e != api.OK || a.Note(mine, root, 1, 1, root) != api.OK {
		t.Fatalf("not set up")
	}
	live := a.Live()
	// The note was laid last of all.
	note := live + 1
	for _, id := range []int{theirs, note, note + 1, 1 << 32, -1, -2, math.MinInt, math.MaxInt} {
		refuseBoth(t, "not its own square", a, mine, id, api.ErrNone)
	}
	for _, tenant := range noTenants() {
		for _, id := range []int{root, theirs, note, api.Dead, api.Alive, -1} {
			refuseBoth(t, "no tenant", a, tenant, id, api.ErrNone)
		}
	}
	refuseBoth(t, "another's square", a, other, root, api.ErrNone)
	for _, tenant := range append(noTenants(), mine) {
		for _, id := range []int{root, api.Dead, api.Alive, -1} {
			refuseBoth(t, "no arena", nil, tenant, id, api.ErrNone)
		}
	}
	if a.Live() != live || a.Count(mine) != live-a.Count(other)+1 {
		t.Errorf("%d things became %d", live, a.Live())
	}
	a.Clean(mine, nil)
	refuseBoth(t, "its own no more", a, mine, root, api.ErrNone)
}

func TestAnArenaThatNewHasNotBuilt(t *testing.T) {
	var a arena.Arena
	refuseBoth(t, "no square", &a, mine, 2, api.ErrNone)
	refuseBoth(t, "level 0", &a, mine, api.Alive, api.ErrLevel)
}

func TestTheRootStaysAsItIs(t *testing.T) {
	a := build(t, api.MaxRoom)
	root := putAll(t, a, 9, glider()...)
	must(t)(leap.Steps(a, mine, life, root, 1000))
	wantLevel(t, "the root", a, root, 9)
	l, e := quad.Cells(a, mine, root)
	if wanted, _ := plane.Tidy(glider()); e != api.OK || !slices.Equal(l, wanted) {
		t.Errorf("the root: %v, error %d", l, e)
	}
}
