package leap_test

import (
	"math/rand"
	"slices"
	"testing"

	"lifelodge/api"
	"lifelodge/arena"
	"lifelodge/leap"
	"lifelodge/plane"
	"lifelodge/quad"
)

// P6.3

// goOn is n steps of some cells by a rule.
type goOn struct {
	what  string
	r     api.Rule
	l     []api.Cell
	level int // of the root that the cells are in; 0: the least
	n     int
}

func someGoOns() []goOn {
	return []goOn{
		{"one step of a rod", life, rod(), 0, 1},
		{"eight steps of a rod", life, rod(), 0, 8},
		{"a glider, far", life, glider(), 0, 13},
		{"a glider in a wide root", life, glider(), 12, 6},
		{"a cell that dies", life, cells(at(100, -100)), 0, 3},
		{"a flood", flood, cells(at(-1, 2)), 0, 5},
		{"what stays", still, ship(), 0, 2},
		{"nothing", life, nil, 0, 4},
	}
}

func (g goOn) root(t *testing.T, a *arena.Arena, tenant int) int {
	t.Helper()
	root := must(t)(quad.From(a, tenant, g.l))
	level, _ := a.Level(tenant, root)
	for ; level < g.level; level++ {
		root = must(t)(quad.Wrap(a, tenant, root))
	}
	return root
}

func (g goOn) steps(a *arena.Arena, tenant, root int) (int, api.Errno) {
	return leap.Steps(a, tenant, g.r, root, g.n)
}

// Each tenant that may have less than what is made is told ErrQuota, and has what it had; with so much it is answered.
func TestTooLittle(t *testing.T) {
	for _, g := range someGoOns() {
		a := build(t, 5000)
		root := g.root(t, a, mine)
		had := a.Count(mine)
		wanted := must(t)(g.steps(a, mine, root))
		need := a.Count(mine)
		if need == had {
			t.Errorf("%s: nothing was noted", g.what)
		}
		for may := had; may < need; may++ {
			b := build(t, 5000)
			root := g.root(t, b, mine)
			limit(t, b, mine, may)
			refuse(t, g.what, api.ErrQuota)(g.steps(b, mine, root))
			if b.Count(mine) != had {
				t.Errorf("%s: of %d things it has %d", g.what, had, b.Count(mine))
			}
			limit(t, b, mine, need)
			wantId(t, g.what+", with more", wanted)(g.steps(b, mine, root))
			if b.Count(mine) != need {
				t.Errorf("%s: it pays for %d; want %d", g.what, b.Count(mine), need)
			}
		}
	}
}

func TestMayHaveLessThanItHas(t *testing.T) {
	a := build(t, 5000)
	root := from(t, a, glider()...)
	had := a.Count(mine)
	limit(t, a, mine, 0)
	refuse(t, "Leap", api.ErrQuota)(leap.Leap(a, mine, life, root, 2))
	refuse(t, "Steps", api.ErrQuota)(leap.Steps(a, mine, life, root, 3))
	wantId(t, "no steps", root)(leap.Steps(a, mine, life, root, 0))
	if a.Count(mine) != had {
		t.Errorf("%d things became %d", had, a.Count(mine))
	}
}

// Errors that can be told without making anything come ahead of ErrQuota.
func TestWhichErrorComesFirst(t *testing.T) {
	n := half(most)
	for _, far := range cells(at(n, 0), at(0, n), at(-n-1, 0), at(0, -n-1)) {
		a := build(t, 5000)
		root := from(t, a, rod()...)
		least, wide := putAll(t, a, most+1, far), putAll(t, a, api.MaxLevel, far)
		a.Clean(mine, []int{root, wide})
		limit(t, a, mine, 0)
		refuse(t, "Leap: rule", api.ErrKind)(leap.Leap(a, mine, api.Rule{Born: 1}, root, -1))
		refuse(t, "Leap: j", api.ErrRange)(leap.Leap(a, mine, life, least, -1))
		refuse(t, "Leap: no square", api.ErrNone)(leap.Leap(a, mine, life, least, 0))
		refuse(t, "Leap: level", api.ErrLevel)(leap.Leap(a, mine, life, wide, 0))
		refuse(t, "Leap: quota", api.ErrQuota)(leap.Leap(a, mine, life, root, 0))
		refuse(t, "Steps: n", api.ErrRange)(leap.Steps(a, mine, api.Rule{Born: 1}, root, -1))
		refuse(t, "Steps: rule", api.ErrKind)(leap.Steps(a, mine, api.Rule{Born: 1}, least, 0))
		refuse(t, "Steps: no square", api.ErrNone)(leap.Steps(a, mine, life, least, 0))
		refuse(t, "Steps: level", api.ErrLevel)(leap.Steps(a, mine, life, wide, 1))
		refuse(t, "Steps: quota, to peel", api.ErrQuota)(leap.Steps(a, mine, life, wide, 0))
		refuse(t, "Steps: quota", api.ErrQuota)(leap.Steps(a, mine, life, root, 1))
	}
}

// What a square becomes is found once: asked again, it costs nothing.
func TestAskedAgain(t *testing.T) {
	for _, g := range someGoOns() {
		a := build(t, 5000)
		root := g.root(t, a, mine)
		wanted := must(t)(g.steps(a, mine, root))
		n := a.Count(mine)
		limit(t, a, mine, 0)
		wantId(t, g.what+", again", wanted)(g.steps(a, mine, root))
		for j := range 31 {
			if g.n == 1<<j {
				wantId(t, g.what+", as a leap", wanted)(leap.Leap(a, mine, g.r, root, j))
			}
		}
		if a.Count(mine) != n {
			t.Errorf("%s: %d things became %d", g.what, n, a.Count(mine))
		}
	}
}

// The notes of one rule, and of one number of steps, are none of another.
func TestAskedForSomethingElse(t *testing.T) {
	a := build(t, 50000)
	root := from(t, a, glider()...)
	must(t)(leap.Steps(a, mine, life, root, 4))
	limit(t, a, mine, a.Count(mine))
	for _, r := range goodRules() {
		if r != life {
			refuse(t, "another rule", api.ErrQuota)(leap.Steps(a, mine, r, root, 4))
		}
	}
	for _, n := range []int{1, 2, 3, 5, 8, 1000} {
		refuse(t, "other steps", api.ErrQuota)(leap.Steps(a, mine, life, root, n))
	}
}

// A flood of notes and squares would be needed, if each square's becoming were not found by that of smaller ones.
func TestItIsLittle(t *testing.T) {
	for _, s := range []struct {
		what string
		r    api.Rule
		l    []api.Cell
		most int
	}{
		{"a glider", life, glider(), 3000},
		{"a rod", life, rod(), 1500},
		{"a lone cell", life, cells(at(0, 0)), 1500},
		{"eight away", odd, cells(at(0, 0)), 20000},
		{"a flood", flood, cells(at(0, 0)), 20000},
	} {
		for _, n := range []int{1 << 21, 4000000, 3999999, 1<<22 + 1} {
			a := build(t, api.MaxRoom)
			must(t)(leap.Steps(a, mine, s.r, from(t, a, s.l...), n))
			if a.Count(mine) > s.most {
				t.Errorf("%s, %d steps: %d things", s.what, n, a.Count(mine))
			}
		}
	}
}

// A mark stays where it is, whether a leap is answered or refused.
func TestMarksStay(t *testing.T) {
	a := build(t, 5000)
	root := from(t, a, glider()...)
	had := a.Count(mine)
	a.Mark(mine)
	must(t)(a.Join(mine, [4]int{1, 1, 1, 1}))
	limit(t, a, mine, had+20)
	refuse(t, "too little", api.ErrQuota)(leap.Steps(a, mine, life, root, 4))
	if n := a.Count(mine); n != had+1 {
		t.Errorf("refused, it has %d; want %d", n, had+1)
	}
	limit(t, a, mine, 5000)
	must(t)(leap.Steps(a, mine, life, root, 4))
	made := a.Count(mine) - had
	if n := a.Undo(mine); n != made || a.Count(mine) != had {
		t.Errorf("undone: %d, and %d left; want %d, and %d", n, a.Count(mine), made, had)
	}
	wantCells(t, "after Undo", a, moved(glider(), 1, 1))(leap.Steps(a, mine, life, root, 4))
}

// An answer stays, with all that it is made of, when notes and roots on the way are given up.
func TestTheAnswerIsTheTenantsOwn(t *testing.T) {
	a := build(t, 5000)
	root := must(t)(leap.Steps(a, mine, life, from(t, a, glider()...), 400))
	a.Clean(mine, []int{root})
	a.Sweep()
	alone := build(t, 5000)
	from(t, alone, moved(glider(), 100, 100)...)
	if a.Live() != alone.Live() {
		t.Errorf("%d things are left; want %d", a.Live(), alone.Live())
	}
	wantCells(t, "left", a, moved(glider(), 100, 100))(root, api.OK)
}

// Tenants beside each other.

func TestTwoTenantsWithTheSameCells(t *testing.T) {
	for _, g := range someGoOns() {
		alone, a := build(t, 5000), build(t, 5000)
		must(t)(g.steps(alone, mine, g.root(t, alone, mine)))
		root := g.root(t, a, mine)
		wanted := must(t)(g.steps(a, mine, root))
		for _, tenant := range []int{0, other} {
			wantId(t, g.what+", the root", root)(g.root(t, a, tenant), api.OK)
			refuseMore(t, g, a, tenant, root)
			wantId(t, g.what+", the same cells", wanted)(g.steps(a, tenant, root))
		}
		for _, tenant := range []int{mine, 0, other} {
			if a.Count(tenant) != alone.Count(mine) {
				t.Errorf("%s: tenant %d pays for %d; alone %d", g.what, tenant, a.Count(tenant), alone.Count(mine))
			}
		}
		if a.Live() != alone.Live() {
			t.Errorf("%s: there are %d things; want %d", g.what, a.Live(), alone.Live())
		}
	}
}

// refuseMore wants a tenant that may have what it has to be refused, though all of it is there, as another's.
func refuseMore(t *testing.T, g goOn, a *arena.Arena, tenant, root int) {
	t.Helper()
	n := a.Count(tenant)
	limit(t, a, tenant, n)
	refuse(t, g.what+", with another's notes", api.ErrQuota)(g.steps(a, tenant, root))
	if a.Count(tenant) != n {
		t.Errorf("%s: %d things became %d", g.what, n, a.Count(tenant))
	}
	limit(t, a, tenant, 5000)
}

// A tenant's notes don't go with another's.
func TestOthersGiveUpTheirNotes(t *testing.T) {
	a := build(t, 5000)
	root := from(t, a, glider()...)
	wanted := must(t)(leap.Steps(a, mine, life, root, 100))
	wantId(t, "the other's root", root)(quad.From(a, other, glider()))
	wantId(t, "the other", wanted)(leap.Steps(a, other, life, root, 100))
	n := a.Count(mine)
	a.Clean(other, nil)
	a.Sweep()
	limit(t, a, mine, 0)
	wantId(t, "again", wanted)(leap.Steps(a, mine, life, root, 100))
	if a.Count(mine) != n || a.Live() != n {
		t.Errorf("it pays for %d of %d; want %d", a.Count(mine), a.Live(), n)
	}
}

// Notes that were made by numbers that rules might be told by are neither taken for leaps nor in their way.
func TestOtherNotesInTheArena(t *testing.T) {
	for _, tenant := range []int{mine, other} {
		a := build(t, api.MaxRoom)
		root := from(t, a, rod()...)
		wantId(t, "the other's root", root)(quad.From(a, other, rod()))
		for _, number := range []int{0, 1, 8, 12, 8<<9 | 12, 12<<9 | 8, 8*1000 + 12, 8<<10 | 12, 8<<16 | 12, 8<<32 | 12} {
			for j := -2; j <= api.MaxLevel; j++ {
				for _, s := range a.Squares() {
					a.Note(tenant, s.Id, number, j, api.Alive)
				}
			}
		}
		wantId(t, "a rod", root)(leap.Leap(a, mine, life, root, 3))
		wantCells(t, "a rod", a, cells(at(1, -1), at(1, 0), at(1, 1)))(leap.Steps(a, mine, life, root, 1001))
	}
}

// Things that are nobody's make room, as much as is needed, in the midst of a leap.
func TestRoomIsMadeOnTheWay(t *testing.T) {
	for _, g := range someGoOns() {
		alone := build(t, 5000)
		must(t)(g.steps(alone, mine, g.root(t, alone, mine)))
		need := alone.Count(mine)
		a := build(t, need)
		for i := range need {
			if e := a.Note(other, api.Alive, 0, i, api.Alive); e != api.OK {
				t.Fatalf("not set up: error %d", e)
			}
			if i == need/3 {
				a.Mark(other)
			}
		}
		a.Undo(other)
		root := g.root(t, a, mine)
		refuse(t, g.what+", others have the room", api.ErrFull)(g.steps(a, mine, root))
		a.Clean(other, nil)
		must(t)(g.steps(a, mine, root))
		if a.Count(mine) != need {
			t.Errorf("%s: it pays for %d; want %d", g.what, a.Count(mine), need)
		}
	}
}

// guest is a tenant that does something now and then; what it is told hangs on what it drew alone.
type guest struct {
	a      *arena.Arena
	tenant int
	r      *rand.Rand
	roots  []int
	told   []any
}

func newGuest(a *arena.Arena, tenant, seed int) *guest {
	return &guest{a: a, tenant: tenant, r: rand.New(rand.NewSource(int64(seed)))}
}

// add keeps a root and tells its cells, not its number, which others may change.
func (g *guest) add(root int, e api.Errno) {
	g.told = append(g.told, e, g.a.Count(g.tenant))
	if e == api.OK {
		l, f := quad.Cells(g.a, g.tenant, root)
		g.told = append(g.told, len(l), f)
		for _, c := range l {
			g.told = append(g.told, c)
		}
		g.roots = append(g.roots, root)
	}
}

func (g *guest) pick() int {
	if len(g.roots) == 0 {
		return api.Dead
	}
	return g.roots[g.r.Intn(len(g.roots))]
}

func (g *guest) act() {
	rules := []api.Rule{life, life, odd, flood, still}
	switch g.r.Intn(12) {
	case 0, 1:
		l, _ := plane.Shift([][]api.Cell{rod(), glider(), ship(), restless()}[g.r.Intn(4)], g.r.Intn(5), g.r.Intn(5))
		g.add(quad.From(g.a, g.tenant, l))
	case 2:
		g.roots = g.roots[len(g.roots)/2:]
		g.told = append(g.told, g.a.Clean(g.tenant, g.roots))
	case 3:
		g.told = append(g.told, g.a.Limit(g.tenant, g.r.Intn(1200)))
	case 4:
		root := g.pick()
		g.a.Mark(g.tenant)
		_, e := leap.Leap(g.a, g.tenant, rules[g.r.Intn(len(rules))], root, g.r.Intn(8))
		g.told = append(g.told, e, g.a.Undo(g.tenant), g.a.Count(g.tenant))
	default:
		g.add(leap.Steps(g.a, g.tenant, rules[g.r.Intn(len(rules))], g.pick(), 1<<g.r.Intn(8)>>1+g.r.Intn(3)))
	}
}

// Tenants that share an arena with room for what all of them may have are told what each would be told alone.
func TestOthersAreNotToBeSeen(t *testing.T) {
	for seed := range 12 {
		r := rand.New(rand.NewSource(int64(seed)))
		const tenants, acts = 4, 60
		shared := build(t, 1200*tenants)
		var beside, alone []*guest
		for i := range tenants {
			beside = append(beside, newGuest(shared, i*21, seed*100+i%3))
			alone = append(alone, newGuest(build(t, 1200*tenants), i, seed*100+i%3))
			for _, g := range []*guest{beside[i], alone[i]} {
				limit(t, g.a, g.tenant, 1200)
			}
		}
		for range tenants * acts {
			i := r.Intn(tenants)
			beside[i].act()
			alone[i].act()
			if r.Intn(40) == 0 {
				shared.Sweep()
			}
			if !slices.Equal(beside[i].told, alone[i].told) {
				t.Fatalf("seed %d: told %v beside others, %v alone", seed, beside[i].told, alone[i].told)
			}
		}
	}
}
