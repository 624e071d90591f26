package arena_test

import (
	"math"
	"slices"
	"testing"

	"lifelodge/api"
	"lifelodge/arena"
)

const last = api.Tenants - 1

func noTenants() []int { return []int{-1, api.Tenants, 1 << 32, math.MinInt, math.MaxInt} }

func build(t *testing.T, room int) *arena.Arena {
	t.Helper()
	a, e := arena.New(room)
	if a == nil || e != api.OK {
		t.Fatalf("New(%d): %v, error %d", room, a, e)
	}
	return a
}

// quarters are the i-th four of Dead and Alive; 0 to 15 are different.
func quarters(i int) [4]int { return [4]int{i >> 3 & 1, i >> 2 & 1, i >> 1 & 1, i & 1} }

func four(id int) [4]int { return [4]int{id, id, id, id} }

// join is a square that must be there, or be made.
func join(t *testing.T, a *arena.Arena, tenant int, q [4]int) int {
	t.Helper()
	id, e := a.Join(tenant, q)
	if e != api.OK {
		t.Fatalf("Join(%d, %v): %d, error %d", tenant, q, id, e)
	}
	return id
}

func wantJoin(t *testing.T, a *arena.Arena, tenant int, q [4]int, wanted int) {
	t.Helper()
	if id, e := a.Join(tenant, q); id != wanted || e != api.OK {
		t.Errorf("Join(%d, %v): %d, error %d; want %d", tenant, q, id, e, wanted)
	}
}

func refuseJoin(t *testing.T, a *arena.Arena, tenant int, q [4]int, wanted api.Errno) {
	t.Helper()
	before := lookAt(a)
	if id, e := a.Join(tenant, q); id != 0 || e != wanted {
		t.Errorf("Join(%d, %v): %d, error %d; want 0, error %d", tenant, q, id, e, wanted)
	}
	wantLook(t, a, before)
}

func wantNote(t *testing.T, a *arena.Arena, tenant, square, rule, j, value int) {
	t.Helper()
	if e := a.Note(tenant, square, rule, j, value); e != api.OK {
		t.Errorf("Note(%d, %d, %d, %d, %d): error %d", tenant, square, rule, j, value, e)
	}
}

func refuseNote(t *testing.T, a *arena.Arena, tenant, square, rule, j, value int, wanted api.Errno) {
	t.Helper()
	before := lookAt(a)
	if e := a.Note(tenant, square, rule, j, value); e != wanted {
		t.Errorf("Note(%d, %d, %d, %d, %d): error %d; want %d", tenant, square, rule, j, value, e, wanted)
	}
	wantLook(t, a, before)
}

func wantRecall(t *testing.T, a *arena.Arena, tenant, square, rule, j, wanted int) {
	t.Helper()
	if v, ok := a.Recall(tenant, square, rule, j); v != wanted || !ok {
		t.Errorf("Recall(%d, %d, %d, %d): %d, %v; want %d", tenant, square, rule, j, v, ok, wanted)
	}
}

func noRecall(t *testing.T, a *arena.Arena, tenant, square, rule, j int) {
	t.Helper()
	if v, ok := a.Recall(tenant, square, rule, j); v != 0 || ok {
		t.Errorf("Recall(%d, %d, %d, %d): %d, %v; want none", tenant, square, rule, j, v, ok)
	}
}

func wantLevel(t *testing.T, a *arena.Arena, tenant, id, wanted int) {
	t.Helper()
	if n, e := a.Level(tenant, id); n != wanted || e != api.OK {
		t.Errorf("Level(%d, %d): %d, error %d; want %d", tenant, id, n, e, wanted)
	}
}

func wantKids(t *testing.T, a *arena.Arena, tenant, id int, wanted [4]int) {
	t.Helper()
	if q, e := a.Kids(tenant, id); q != wanted || e != api.OK {
		t.Errorf("Kids(%d, %d): %v, error %d; want %v", tenant, id, q, e, wanted)
	}
}

// notOwn wants a number not to be the tenant's own square.
func notOwn(t *testing.T, a *arena.Arena, tenant, id int) {
	t.Helper()
	if n, e := a.Level(tenant, id); n != 0 || e != api.ErrNone {
		t.Errorf("Level(%d, %d): %d, error %d; want ErrNone", tenant, id, n, e)
	}
	noKids(t, a, tenant, id)
}

func noKids(t *testing.T, a *arena.Arena, tenant, id int) {
	t.Helper()
	if q, e := a.Kids(tenant, id); q != [4]int{} || e != api.ErrNone {
		t.Errorf("Kids(%d, %d): %v, error %d; want ErrNone", tenant, id, q, e)
	}
}

func wantCount(t *testing.T, a *arena.Arena, tenant, wanted int) {
	t.Helper()
	if n := a.Count(tenant); n != wanted {
		t.Errorf("Count(%d): %d; want %d", tenant, n, wanted)
	}
}

func wantLive(t *testing.T, a *arena.Arena, wanted int) {
	t.Helper()
	if n := a.Live(); n != wanted {
		t.Errorf("Live: %d; want %d", n, wanted)
	}
}

func wantUndo(t *testing.T, a *arena.Arena, tenant, wanted int) {
	t.Helper()
	if n := a.Undo(tenant); n != wanted {
		t.Errorf("Undo(%d): %d; want %d", tenant, n, wanted)
	}
}

func wantBack(t *testing.T, a *arena.Arena, tenant, n, wanted int) {
	t.Helper()
	if got := a.Back(tenant, n); got != wanted {
		t.Errorf("Back(%d, %d): %d; want %d", tenant, n, got, wanted)
	}
}

func wantFresh(t *testing.T, a *arena.Arena, tenant, wanted int) {
	t.Helper()
	if n := a.Fresh(tenant); n != wanted {
		t.Errorf("Fresh(%d): %d; want %d", tenant, n, wanted)
	}
}

func wantClean(t *testing.T, a *arena.Arena, tenant int, roots []int, wanted int) {
	t.Helper()
	if n := a.Clean(tenant, roots); n != wanted {
		t.Errorf("Clean(%d, %v): %d; want %d", tenant, roots, n, wanted)
	}
}

func wantSweep(t *testing.T, a *arena.Arena, wanted int) {
	t.Helper()
	if n := a.Sweep(); n != wanted {
		t.Errorf("Sweep: %d; want %d", n, wanted)
	}
}

func wantLimit(t *testing.T, a *arena.Arena, tenant, n int, wanted api.Errno) {
	t.Helper()
	if e := a.Limit(tenant, n); e != wanted {
		t.Errorf("Limit(%d, %d): error %d; want %d", tenant, n, e, wanted)
	}
}

func mark(t *testing.T, a *arena.Arena, tenant int) {
	t.Helper()
	if e := a.Mark(tenant); e != api.OK {
		t.Errorf("Mark(%d): error %d", tenant, e)
	}
}

// look is what can be seen of an arena without changing it, but for its notes.
type look struct {
	live    int
	counts  [api.Tenants]int
	squares []api.Square
}

func lookAt(a *arena.Arena) look {
	l := look{live: a.Live(), squares: a.Squares()}
	for t := range l.counts {
		l.counts[t] = a.Count(t)
	}
	return l
}

func wantLook(t *testing.T, a *arena.Arena, wanted look) {
	t.Helper()
	got := lookAt(a)
	if got.live != wanted.live || got.counts != wanted.counts || !slices.Equal(got.squares, wanted.squares) {
		t.Errorf("the arena has changed: %v; want %v", got, wanted)
	}
}

// tower is squares of levels 1 to n, each made of the one below it.
func tower(t *testing.T, a *arena.Arena, tenant, n int) []int {
	t.Helper()
	l, below := []int{}, api.Alive
	for range n {
		below = join(t, a, tenant, four(below))
		l = append(l, below)
	}
	return l
}

// P4.1

func TestNewRooms(t *testing.T) {
	for _, room := range []int{0, 1, 4, api.MaxRoom - 1, api.MaxRoom} {
		a := build(t, room)
		wantLook(t, a, look{})
		wantSweep(t, a, 0)
		for tenant := range api.Tenants {
			wantUndo(t, a, tenant, 0)
			wantClean(t, a, tenant, []int{0, 1, 2}, 0)
			notOwn(t, a, tenant, 2)
		}
	}
	for _, room := range []int{-1, api.MaxRoom + 1, math.MinInt, math.MaxInt} {
		if a, e := arena.New(room); a != nil || e != api.ErrRange {
			t.Errorf("New(%d): %v, error %d; want nil, ErrRange", room, a, e)
		}
	}
}

func TestNewArenasAreApart(t *testing.T) {
	a, b := build(t, 4), build(t, 4)
	join(t, a, 0, quarters(1))
	wantLook(t, b, look{})
	notOwn(t, b, 0, 2)
	wantJoin(t, b, 0, quarters(2), 2)
	wantKids(t, a, 0, 2, quarters(1))
}

func TestNoRoom(t *testing.T) {
	a := build(t, 0)
	for _, tenant := range []int{0, 1, last} {
		refuseJoin(t, a, tenant, quarters(0), api.ErrQuota)
		refuseNote(t, a, tenant, 0, 0, 0, 0, api.ErrQuota)
		wantLimit(t, a, tenant, 0, api.OK)
		wantLimit(t, a, tenant, 1, api.ErrRange)
	}
}

func TestEachTenantMayHaveTheRoom(t *testing.T) {
	a := build(t, 3)
	for tenant := range api.Tenants {
		for i := range 3 {
			wantJoin(t, a, tenant, quarters(i), i+2)
		}
		refuseJoin(t, a, tenant, quarters(3), api.ErrQuota)
		wantCount(t, a, tenant, 3)
	}
	wantLive(t, a, 3)
}

func TestTheGreatestRoom(t *testing.T) {
	a := build(t, api.MaxRoom)
	for i := range api.MaxRoom {
		if e := a.Note(0, api.Alive, i%1000, i/1000, i%2); e != api.OK {
			t.Fatalf("note %d: error %d", i, e)
		}
	}
	wantLive(t, a, api.MaxRoom)
	wantCount(t, a, 0, api.MaxRoom)
	refuseNote(t, a, 0, api.Alive, -1, 0, 0, api.ErrQuota)
	refuseNote(t, a, 1, api.Alive, -1, 0, 0, api.ErrFull)
	refuseJoin(t, a, 1, quarters(1), api.ErrFull)
	wantNote(t, a, 1, api.Alive, 999, 199, 1)
	wantUndo(t, a, 0, api.MaxRoom)
	wantLive(t, a, api.MaxRoom)
	wantJoin(t, a, 1, quarters(1), 2)
	wantLive(t, a, 2)
	wantRecall(t, a, 1, api.Alive, 999, 199, 1)
}

func TestLimit(t *testing.T) {
	a := build(t, 5)
	for _, tenant := range []int{0, 1, last} {
		for _, n := range []int{0, 1, 5} {
			wantLimit(t, a, tenant, n, api.OK)
		}
		for _, n := range []int{-1, 6, api.MaxRoom, math.MinInt, math.MaxInt} {
			wantLimit(t, a, tenant, n, api.ErrRange)
		}
	}
	for _, tenant := range noTenants() {
		wantLimit(t, a, tenant, 1, api.ErrRange)
	}
}

func TestLimitHolds(t *testing.T) {
	a := build(t, 5)
	wantLimit(t, a, last, 2, api.OK)
	wantJoin(t, a, last, quarters(0), 2)
	wantJoin(t, a, last, quarters(1), 3)
	wantLimit(t, a, last, 6, api.ErrRange)
	refuseJoin(t, a, last, quarters(2), api.ErrQuota)
	wantLimit(t, a, last, 3, api.OK)
	wantJoin(t, a, last, quarters(2), 4)
	wantLimit(t, a, last, -1, api.ErrRange)
	refuseNote(t, a, last, 2, 0, 0, 3, api.ErrQuota)
	for i := range 5 {
		wantJoin(t, a, 0, quarters(i), i+2)
	}
}

func TestLimitBelowWhatItHas(t *testing.T) {
	a := build(t, 9)
	for i := range 4 {
		wantJoin(t, a, 0, quarters(i), i+2)
	}
	for _, n := range []int{3, 0} {
		wantLimit(t, a, 0, n, api.OK)
		wantCount(t, a, 0, 4)
		wantLevel(t, a, 0, 5, 1)
		wantJoin(t, a, 0, quarters(3), 5)
		refuseJoin(t, a, 0, quarters(4), api.ErrQuota)
	}
	wantLimit(t, a, 0, 3, api.OK)
	wantClean(t, a, 0, []int{2, 3}, 2)
	wantJoin(t, a, 0, quarters(4), 6)
	refuseJoin(t, a, 0, quarters(5), api.ErrQuota)
}

// P4.2

func TestDeadAndAliveAreEverybodys(t *testing.T) {
	a := build(t, 2)
	for tenant := range api.Tenants {
		for _, id := range []int{api.Dead, api.Alive} {
			wantLevel(t, a, tenant, id, 0)
			noKids(t, a, tenant, id)
		}
		wantCount(t, a, tenant, 0)
	}
	wantLive(t, a, 0)
}

func TestLevels(t *testing.T) {
	a := build(t, 100)
	for i, id := range tower(t, a, 7, api.MaxLevel) {
		wantLevel(t, a, 7, id, i+1)
		notOwn(t, a, 8, id)
	}
}

func TestKidsStandInTheirOrder(t *testing.T) {
	a := build(t, 100)
	for i := range 16 {
		wantJoin(t, a, last, quarters(i), i+2)
	}
	for i := range 16 {
		wantKids(t, a, last, i+2, quarters(i))
	}
	for _, q := range [][4]int{{2, 3, 4, 5}, {5, 4, 3, 2}, {3, 2, 4, 5}, {2, 3, 5, 4}, {2, 2, 2, 3}} {
		id := join(t, a, last, q)
		wantKids(t, a, last, id, q)
		wantLevel(t, a, last, id, 2)
	}
}

func TestWhatIsNotOwn(t *testing.T) {
	a := build(t, 9)
	join(t, a, 0, quarters(1))
	join(t, a, 1, quarters(2))
	wantNote(t, a, 0, 2, 5, 6, 2)
	for _, id := range []int{3, 4, 5, 6, -1, -2, 1 << 32, math.MinInt, math.MinInt + 1, math.MaxInt} {
		notOwn(t, a, 0, id)
	}
	for _, tenant := range noTenants() {
		for _, id := range []int{0, 1, 2, 3, 4, 5, -1} {
			notOwn(t, a, tenant, id)
		}
	}
	wantUndo(t, a, 0, 2)
	notOwn(t, a, 0, 2)
	wantSweep(t, a, 2)
	notOwn(t, a, 0, 2)
	notOwn(t, a, 0, 4)
}

// P4.3

func TestJoin(t *testing.T) {
	a := build(t, 9)
	wantJoin(t, a, 0, [4]int{1, 0, 0, 1}, 2)
	wantJoin(t, a, 0, [4]int{1, 0, 0, 1}, 2)
	wantLive(t, a, 1)
	wantCount(t, a, 0, 1)
	wantJoin(t, a, 0, [4]int{0, 1, 1, 0}, 3)
	wantJoin(t, a, 0, [4]int{2, 3, 3, 2}, 4)
	wantJoin(t, a, 0, [4]int{3, 2, 2, 3}, 5)
	wantJoin(t, a, 0, [4]int{2, 3, 3, 2}, 4)
	wantLook(t, a, look{4, [api.Tenants]int{0: 4}, []api.Square{
		{Id: 2, Level: 1, Kids: [4]int{1, 0, 0, 1}, Mask: 1},
		{Id: 3, Level: 1, Kids: [4]int{0, 1, 1, 0}, Mask: 1},
		{Id: 4, Level: 2, Kids: [4]int{2, 3, 3, 2}, Mask: 1},
		{Id: 5, Level: 2, Kids: [4]int{3, 2, 2, 3}, Mask: 1},
	}})
}

func TestJoinOfNoTenant(t *testing.T) {
	a := build(t, 0)
	for _, tenant := range noTenants() {
		refuseJoin(t, a, tenant, quarters(0), api.ErrRange)
		refuseJoin(t, a, tenant, [4]int{9, 0, 0, 0}, api.ErrRange)
	}
}

func TestJoinOfWhatIsNotItsOwn(t *testing.T) {
	a := build(t, 9)
	join(t, a, 0, quarters(1))
	join(t, a, 1, quarters(2))
	wantNote(t, a, 0, 2, 5, 6, 2)
	wrong := []int{3, 4, 5, 6, -1, 1 << 32, math.MinInt, math.MinInt + 1, math.MaxInt}
	for _, id := range wrong {
		for i := range 4 {
			q := four(2)
			q[i] = id
			refuseJoin(t, a, 0, q, api.ErrNone)
			q[(i+1)%4] = 0
			refuseJoin(t, a, 0, q, api.ErrNone)
		}
	}
	wantLimit(t, a, 0, 0, api.OK)
	refuseJoin(t, a, 0, four(3), api.ErrNone)
	refuseJoin(t, a, 0, [4]int{0, 2, 3, 3}, api.ErrNone)
}

func TestJoinOfAnothersParts(t *testing.T) {
	a := build(t, 9)
	join(t, a, 0, quarters(1))
	join(t, a, 0, four(2))
	refuseJoin(t, a, 1, four(2), api.ErrNone)
	wantJoin(t, a, 1, quarters(1), 2)
	notOwn(t, a, 1, 3)
	wantJoin(t, a, 1, four(2), 3)
	wantLevel(t, a, 1, 3, 2)
	wantCount(t, a, 1, 2)
	wantLive(t, a, 2)
}

func TestJoinOfUnlikeLevels(t *testing.T) {
	a := build(t, 9)
	l := tower(t, a, 0, 3)
	for _, one := range []int{0, 1, l[0], l[1], l[2]} {
		for _, other := range []int{0, 1, l[0], l[1], l[2]} {
			if one == other || one+other == 1 {
				continue
			}
			for i := range 4 {
				q := four(one)
				q[i] = other
				refuseJoin(t, a, 0, q, api.ErrLevel)
			}
		}
	}
	wantLimit(t, a, 0, 0, api.OK)
	refuseJoin(t, a, 0, [4]int{0, 2, 0, 0}, api.ErrLevel)
}

func TestJoinAtTheGreatestLevel(t *testing.T) {
	a := build(t, 100)
	l := tower(t, a, 0, api.MaxLevel)
	top, below := l[len(l)-1], l[len(l)-2]
	wantLevel(t, a, 0, top, api.MaxLevel)
	refuseJoin(t, a, 0, four(top), api.ErrLevel)
	refuseJoin(t, a, 0, [4]int{below, top, top, top}, api.ErrLevel)
	refuseJoin(t, a, 0, [4]int{top, top, top, 1 << 20}, api.ErrNone)
	wantJoin(t, a, 0, four(below), top)
	wantLimit(t, a, 0, 0, api.OK)
	refuseJoin(t, a, 0, four(top), api.ErrLevel)
}

func TestQuota(t *testing.T) {
	a := build(t, 4)
	wantLimit(t, a, 0, 2, api.OK)
	join(t, a, 1, quarters(1))
	join(t, a, 1, quarters(2))
	join(t, a, 1, quarters(3))
	wantJoin(t, a, 0, quarters(3), 4)
	wantJoin(t, a, 0, quarters(1), 2)
	refuseJoin(t, a, 0, quarters(2), api.ErrQuota)
	refuseJoin(t, a, 0, quarters(4), api.ErrQuota)
	wantJoin(t, a, 0, quarters(3), 4)
	wantJoin(t, a, 0, quarters(1), 2)
	wantCount(t, a, 0, 2)
	wantLive(t, a, 3)
	wantKids(t, a, 1, 3, quarters(2))
}

func TestQuotaComesAheadOfTheRoom(t *testing.T) {
	a := build(t, 3)
	wantLimit(t, a, 0, 1, api.OK)
	join(t, a, 0, quarters(0))
	join(t, a, 1, quarters(1))
	join(t, a, 1, quarters(2))
	refuseJoin(t, a, 0, quarters(3), api.ErrQuota)
	wantUndo(t, a, 1, 2)
	refuseJoin(t, a, 0, quarters(3), api.ErrQuota)
	refuseNote(t, a, 0, 2, 0, 0, 2, api.ErrQuota)
	wantLive(t, a, 3)
}

func TestFullRoom(t *testing.T) {
	a := build(t, 3)
	for i := range 3 {
		join(t, a, 0, quarters(i))
	}
	refuseJoin(t, a, 1, quarters(3), api.ErrFull)
	refuseNote(t, a, 1, 0, 0, 0, 0, api.ErrFull)
	wantJoin(t, a, 1, quarters(2), 4)
	wantClean(t, a, 0, []int{2}, 2)
	wantLive(t, a, 3)
	wantJoin(t, a, 1, quarters(3), 3)
	wantLive(t, a, 3)
	wantKids(t, a, 1, 3, quarters(3))
	refuseJoin(t, a, 1, four(3), api.ErrFull)
}

// A refusal for want of room has swept nothing, as what was swept would have made room.
func TestFullRoomOfWhatIsSomebodys(t *testing.T) {
	a := build(t, 2)
	join(t, a, 0, quarters(0))
	join(t, a, 1, quarters(1))
	refuseJoin(t, a, 0, quarters(2), api.ErrFull)
	refuseJoin(t, a, 2, quarters(2), api.ErrFull)
	wantUndo(t, a, 1, 1)
	wantJoin(t, a, 2, quarters(1), 3)
	refuseJoin(t, a, 2, quarters(2), api.ErrFull)
	wantUndo(t, a, 2, 1)
	wantJoin(t, a, 2, quarters(2), 3)
	refuseJoin(t, a, 1, quarters(1), api.ErrFull)
}

func TestWhatWasSweptStaysSwept(t *testing.T) {
	a := build(t, 5)
	for i := range 5 {
		join(t, a, 0, quarters(i))
	}
	wantClean(t, a, 0, []int{4}, 4)
	wantLive(t, a, 5)
	wantJoin(t, a, 1, quarters(9), 2)
	wantLive(t, a, 2)
	wantSweep(t, a, 0)
	wantJoin(t, a, 1, quarters(4), 3)
	wantJoin(t, a, 1, quarters(0), 5)
}

// Below a full room nothing is swept, and what is nobody's keeps its number.
func TestNoSweepBelowTheRoom(t *testing.T) {
	a := build(t, 3)
	join(t, a, 0, quarters(0))
	join(t, a, 0, quarters(1))
	wantUndo(t, a, 0, 2)
	wantJoin(t, a, 0, quarters(2), 4)
	wantLive(t, a, 3)
	wantJoin(t, a, 1, quarters(1), 3)
	wantLive(t, a, 3)
	wantJoin(t, a, 1, quarters(3), 2)
	wantLive(t, a, 3)
}

func TestTheLeastFreeNumber(t *testing.T) {
	a := build(t, 20)
	for i := range 9 {
		wantJoin(t, a, 0, quarters(i), i+2)
	}
	wantClean(t, a, 0, []int{9, 6, 3, 4}, 5)
	wantJoin(t, a, 0, quarters(9), 11)
	wantSweep(t, a, 5)
	for i, id := range []int{2, 5, 7, 8, 10, 12, 13} {
		if i < 4 {
			wantNote(t, a, 0, 3, i, i, 4)
			notOwn(t, a, 0, id)
		} else {
			wantJoin(t, a, 0, [4]int{3, 3, 3 + i%2, 3 + i/2%2}, id)
		}
	}
	wantLive(t, a, 12)
}

func TestManyFreeNumbers(t *testing.T) {
	const n = 1000
	a := build(t, n)
	for i := range n {
		wantNote(t, a, i%2, api.Dead, i, 0, api.Alive)
	}
	wantUndo(t, a, 1, n/2)
	wantSweep(t, a, n/2)
	below := api.Alive
	for i := range api.MaxLevel {
		wantJoin(t, a, 1, four(below), 3+2*i)
		below = 3 + 2*i
	}
}

// P4.4

func TestNote(t *testing.T) {
	a := build(t, 20)
	l := tower(t, a, 0, 3)
	wantNote(t, a, 0, l[2], 77, 5, l[1])
	wantNote(t, a, 0, l[2], 77, 6, l[0])
	wantNote(t, a, 0, l[2], 78, 5, l[2])
	wantNote(t, a, 0, l[1], 77, 5, api.Alive)
	wantLive(t, a, 7)
	wantCount(t, a, 0, 7)
	wantRecall(t, a, 0, l[2], 77, 5, l[1])
	wantRecall(t, a, 0, l[2], 77, 6, l[0])
	wantRecall(t, a, 0, l[2], 78, 5, l[2])
	wantRecall(t, a, 0, l[1], 77, 5, api.Alive)
	noRecall(t, a, 0, l[2], 5, 77)
	noRecall(t, a, 0, l[2], 78, 6)
	noRecall(t, a, 0, l[0], 77, 5)
	if got := a.Squares(); len(got) != 3 {
		t.Errorf("Squares: %v; want 3 of them", got)
	}
	wantJoin(t, a, 0, quarters(3), 9)
}

func TestNoteOfAnyRuleAndJ(t *testing.T) {
	numbers := []int{0, 1, -1, 2, 1 << 32, math.MinInt, math.MaxInt}
	a := build(t, 100)
	for i, rule := range numbers {
		for j, number := range numbers {
			wantNote(t, a, last, i%2, rule, number, j%2)
		}
	}
	wantCount(t, a, last, 49)
	for i, rule := range numbers {
		for j, number := range numbers {
			wantRecall(t, a, last, i%2, rule, number, j%2)
			noRecall(t, a, last, 1-i%2, rule, number)
			noRecall(t, a, 0, i%2, rule, number)
		}
	}
}

// A note and a square whose numbers are alike are two things.
func TestNotesAreNoSquares(t *testing.T) {
	a := build(t, 9)
	wantNote(t, a, 0, 1, 1, 1, 0)
	wantJoin(t, a, 0, [4]int{1, 1, 1, 0}, 3)
	wantJoin(t, a, 0, [4]int{1, 1, 1, 1}, 4)
	wantRecall(t, a, 0, 1, 1, 1, 0)
	wantNote(t, a, 0, 0, 0, 0, 0)
	wantJoin(t, a, 0, [4]int{}, 6)
	wantRecall(t, a, 0, 0, 0, 0, 0)
	noRecall(t, a, 0, 1, 1, 0)
	wantLive(t, a, 5)
}

func TestNoteOfDeadAndAlive(t *testing.T) {
	a := build(t, 9)
	wantNote(t, a, 0, api.Dead, 1, 2, api.Alive)
	wantNote(t, a, 0, api.Alive, 1, 2, api.Dead)
	wantRecall(t, a, 0, api.Dead, 1, 2, api.Alive)
	wantRecall(t, a, 0, api.Alive, 1, 2, api.Dead)
	wantNote(t, a, 1, api.Alive, 1, 2, api.Dead)
	wantLive(t, a, 2)
}

func TestNoteAgain(t *testing.T) {
	a := build(t, 9)
	l := tower(t, a, 0, 2)
	wantNote(t, a, 0, l[1], 7, 1, l[0])
	wantNote(t, a, 0, l[1], 7, 1, l[0])
	wantCount(t, a, 0, 3)
	wantLive(t, a, 3)
	for _, value := range []int{0, 1, l[1]} {
		refuseNote(t, a, 0, l[1], 7, 1, value, api.ErrTwice)
	}
	wantRecall(t, a, 0, l[1], 7, 1, l[0])
}

func TestNoteThatIsAnothers(t *testing.T) {
	a := build(t, 9)
	l := tower(t, a, 0, 2)
	tower(t, a, 1, 2)
	wantNote(t, a, 0, l[1], 7, 1, l[0])
	noRecall(t, a, 1, l[1], 7, 1)
	refuseNote(t, a, 1, l[1], 7, 1, l[1], api.ErrTwice)
	wantLimit(t, a, 1, 2, api.OK)
	refuseNote(t, a, 1, l[1], 7, 1, l[1], api.ErrTwice)
	refuseNote(t, a, 1, l[1], 7, 1, l[0], api.ErrQuota)
	noRecall(t, a, 1, l[1], 7, 1)
	wantLimit(t, a, 1, 3, api.OK)
	wantNote(t, a, 1, l[1], 7, 1, l[0])
	wantRecall(t, a, 1, l[1], 7, 1, l[0])
	wantLive(t, a, 3)
	wantCount(t, a, 1, 3)
	wantLimit(t, a, 1, 0, api.OK)
	wantNote(t, a, 1, l[1], 7, 1, l[0])
}

func TestNoteThatIsNobodys(t *testing.T) {
	a := build(t, 9)
	l := tower(t, a, 0, 2)
	wantNote(t, a, 0, l[1], 7, 1, l[0])
	wantClean(t, a, 0, l, 1)
	noRecall(t, a, 0, l[1], 7, 1)
	refuseNote(t, a, 0, l[1], 7, 1, l[1], api.ErrTwice)
	wantNote(t, a, 0, l[1], 7, 1, l[0])
	wantRecall(t, a, 0, l[1], 7, 1, l[0])
	wantLive(t, a, 3)
	wantClean(t, a, 0, l, 1)
	wantSweep(t, a, 1)
	wantNote(t, a, 0, l[1], 7, 1, l[1])
	wantRecall(t, a, 0, l[1], 7, 1, l[1])
}

func TestNoteOfWhatIsNotItsOwn(t *testing.T) {
	a := build(t, 9)
	join(t, a, 0, quarters(1))
	join(t, a, 1, quarters(2))
	wantNote(t, a, 0, 2, 5, 6, 2)
	for _, id := range []int{3, 4, 5, -1, 1 << 32, math.MinInt, math.MaxInt} {
		refuseNote(t, a, 0, id, 5, 6, 2, api.ErrNone)
		refuseNote(t, a, 0, 2, 5, 6, id, api.ErrNone)
		refuseNote(t, a, 0, 2, 9, 9, id, api.ErrNone)
		refuseNote(t, a, 0, id, 9, 9, id, api.ErrNone)
		noRecall(t, a, 0, id, 5, 6)
	}
	for _, tenant := range noTenants() {
		refuseNote(t, a, tenant, 0, 5, 6, 0, api.ErrNone)
		refuseNote(t, a, tenant, 2, 5, 6, 0, api.ErrNone)
		noRecall(t, a, tenant, 2, 5, 6)
	}
	wantLimit(t, a, 0, 0, api.OK)
	refuseNote(t, a, 0, 2, 9, 9, 3, api.ErrNone)
	wantRecall(t, a, 0, 2, 5, 6, 2)
}

func TestNoteInAFullRoom(t *testing.T) {
	a := build(t, 3)
	wantNote(t, a, 0, 0, 0, 0, 1)
	wantNote(t, a, 0, 0, 0, 1, 1)
	join(t, a, 1, quarters(0))
	refuseNote(t, a, 1, 0, 0, 2, 1, api.ErrFull)
	refuseNote(t, a, 1, 0, 0, 1, 0, api.ErrTwice)
	wantNote(t, a, 1, 0, 0, 1, 1)
	wantUndo(t, a, 0, 2)
	wantNote(t, a, 1, 0, 0, 2, 1)
	wantLive(t, a, 3)
	wantJoin(t, a, 1, quarters(0), 4)
	wantClean(t, a, 1, nil, 3)
	wantNote(t, a, 1, 0, 0, 0, 0)
	wantLive(t, a, 1)
}

// P4.5

func TestMarkOfNoTenant(t *testing.T) {
	a := build(t, 9)
	join(t, a, 0, quarters(0))
	for _, tenant := range noTenants() {
		if e := a.Mark(tenant); e != api.ErrState {
			t.Errorf("Mark(%d): error %d; want ErrState", tenant, e)
		}
	}
	wantUndo(t, a, 0, 1)
}

func TestUndoBehindNew(t *testing.T) {
	a := build(t, 9)
	l := tower(t, a, 0, 2)
	wantNote(t, a, 0, l[1], 7, 1, l[0])
	tower(t, a, last, 1)
	wantUndo(t, a, 0, 3)
	wantCount(t, a, 0, 0)
	wantCount(t, a, last, 1)
	wantLive(t, a, 3)
	notOwn(t, a, 0, l[0])
	notOwn(t, a, 0, l[1])
	noRecall(t, a, 0, l[1], 7, 1)
	wantLevel(t, a, last, l[0], 1)
	wantUndo(t, a, 0, 0)
}

func TestUndoBehindMark(t *testing.T) {
	a := build(t, 9)
	l := tower(t, a, 0, 2)
	mark(t, a, 0)
	wantUndo(t, a, 0, 0)
	mark(t, a, 0)
	tower(t, a, 0, 3)
	wantNote(t, a, 0, l[1], 7, 1, l[0])
	wantUndo(t, a, 0, 2)
	wantCount(t, a, 0, 2)
	wantLevel(t, a, 0, l[1], 2)
	noRecall(t, a, 0, l[1], 7, 1)
	notOwn(t, a, 0, 4)
	tower(t, a, 0, 3)
	mark(t, a, 0)
	mark(t, a, 0)
	wantUndo(t, a, 0, 0)
	wantLevel(t, a, 0, 4, 3)
}

// What was undone can become a tenant's own again, and be undone again.
func TestUndoBehindUndo(t *testing.T) {
	a := build(t, 9)
	join(t, a, 0, quarters(0))
	mark(t, a, 0)
	for range 3 {
		wantJoin(t, a, 0, quarters(1), 3)
		wantJoin(t, a, 0, quarters(0), 2)
		wantUndo(t, a, 0, 1)
		wantUndo(t, a, 0, 0)
		wantCount(t, a, 0, 1)
	}
	wantLevel(t, a, 0, 2, 1)
}

func TestUndoBehindClean(t *testing.T) {
	a := build(t, 9)
	l := tower(t, a, 0, 3)
	wantClean(t, a, 0, l[:2], 1)
	wantUndo(t, a, 0, 0)
	wantCount(t, a, 0, 2)
	wantLevel(t, a, 0, l[1], 2)
	tower(t, a, 0, 3)
	wantUndo(t, a, 0, 1)
	mark(t, a, 0)
	tower(t, a, 0, 3)
	wantClean(t, a, 0, l, 0)
	wantUndo(t, a, 0, 0)
	wantCount(t, a, 0, 3)
}

// What a refused call would have made its own is nothing to undo.
func TestUndoBehindRefusals(t *testing.T) {
	a := build(t, 3)
	wantLimit(t, a, 0, 1, api.OK)
	join(t, a, 0, quarters(0))
	mark(t, a, 0)
	refuseJoin(t, a, 0, quarters(1), api.ErrQuota)
	refuseNote(t, a, 0, 2, 0, 0, 2, api.ErrQuota)
	refuseJoin(t, a, 0, four(9), api.ErrNone)
	wantUndo(t, a, 0, 0)
	wantCount(t, a, 0, 1)
}

func TestTenantsUndoTheirOwn(t *testing.T) {
	a := build(t, 9)
	for _, tenant := range []int{0, 1, last} {
		for i := range 3 {
			wantJoin(t, a, tenant, quarters(i), i+2)
		}
	}
	mark(t, a, 1)
	wantJoin(t, a, 1, quarters(5), 5)
	wantUndo(t, a, 0, 3)
	wantCount(t, a, 1, 4)
	wantCount(t, a, last, 3)
	wantUndo(t, a, 1, 1)
	wantCount(t, a, 1, 3)
	wantKids(t, a, 1, 2, quarters(0))
	wantClean(t, a, last, nil, 3)
	wantKids(t, a, 1, 3, quarters(1))
	wantLive(t, a, 4)
	wantSweep(t, a, 1)
	wantCount(t, a, 1, 3)
}

func TestUndoneNumbersOfOthers(t *testing.T) {
	a := build(t, 9)
	join(t, a, 0, quarters(0))
	wantUndo(t, a, 0, 1)
	wantSweep(t, a, 1)
	wantJoin(t, a, 1, quarters(1), 2)
	wantUndo(t, a, 0, 0)
	notOwn(t, a, 0, 2)
	wantKids(t, a, 1, 2, quarters(1))
}

// Back undoes what came last, and leaves the mark where it is.
func TestBack(t *testing.T) {
	a := build(t, 20)
	l := tower(t, a, 0, 2)
	mark(t, a, 0)
	tower(t, a, 0, 4)
	wantNote(t, a, 0, l[1], 7, 1, l[0])
	tower(t, a, 1, 5)
	wantFresh(t, a, 0, 3)
	wantBack(t, a, 0, 1, 2)
	wantFresh(t, a, 0, 1)
	wantCount(t, a, 0, 3)
	wantLevel(t, a, 0, 4, 3)
	notOwn(t, a, 0, 5)
	noRecall(t, a, 0, l[1], 7, 1)
	wantLive(t, a, 6)
	wantCount(t, a, 1, 5)
	tower(t, a, 0, 5)
	wantFresh(t, a, 0, 3)
	wantUndo(t, a, 0, 3)
	wantFresh(t, a, 0, 0)
	wantCount(t, a, 0, 2)
	wantSweep(t, a, 1)
	wantLevel(t, a, 1, 7, 5)
}

func TestBackByAnyNumber(t *testing.T) {
	a := build(t, 20)
	for _, n := range []int{3, 4, 1 << 32, math.MaxInt} {
		tower(t, a, 0, 3)
		wantBack(t, a, 0, n, 0)
		wantFresh(t, a, 0, 3)
	}
	for _, n := range []int{0, -1, math.MinInt} {
		tower(t, a, 0, 3)
		wantBack(t, a, 0, n, 3)
		wantFresh(t, a, 0, 0)
		wantCount(t, a, 0, 0)
	}
	for _, tenant := range noTenants() {
		wantFresh(t, a, tenant, 0)
		wantBack(t, a, tenant, 0, 0)
	}
	tower(t, a, 0, 3)
	wantClean(t, a, 0, []int{2}, 2)
	wantFresh(t, a, 0, 0)
	wantBack(t, a, 0, 0, 0)
	wantCount(t, a, 0, 1)
}

func TestCleanWithoutRoots(t *testing.T) {
	for _, roots := range [][]int{nil, {}, {0}, {1, 0, 1}, {-1, 9, 1 << 32, math.MinInt, math.MaxInt}} {
		a := build(t, 9)
		l := tower(t, a, 0, 2)
		wantNote(t, a, 0, l[1], 7, 1, l[0])
		tower(t, a, 1, 1)
		wantClean(t, a, 0, roots, 3)
		wantCount(t, a, 0, 0)
		wantCount(t, a, 1, 1)
		wantLive(t, a, 3)
		notOwn(t, a, 0, l[0])
		notOwn(t, a, 0, l[1])
		noRecall(t, a, 0, l[1], 7, 1)
		wantLevel(t, a, 0, api.Alive, 0)
		wantClean(t, a, 0, roots, 0)
	}
}

func TestCleanKeepsWhatRootsAreMadeOf(t *testing.T) {
	a := build(t, 40)
	for i := range 5 {
		wantJoin(t, a, 0, quarters(i), i+2)
	}
	one := join(t, a, 0, [4]int{2, 3, 3, 4})
	two := join(t, a, 0, [4]int{4, 5, 4, 5})
	top := join(t, a, 0, [4]int{one, one, one, one})
	wantNote(t, a, 0, top, 7, 1, one)
	wantClean(t, a, 0, []int{0, top, -5, top, 1, one}, 4)
	for _, id := range []int{2, 3, 4} {
		wantLevel(t, a, 0, id, 1)
	}
	wantLevel(t, a, 0, one, 2)
	wantLevel(t, a, 0, top, 3)
	for _, id := range []int{5, 6, two} {
		notOwn(t, a, 0, id)
	}
	noRecall(t, a, 0, top, 7, 1)
	wantCount(t, a, 0, 5)
	wantSweep(t, a, 4)
}

func TestCleanWithRootsThatAreNotItsOwn(t *testing.T) {
	a := build(t, 40)
	l := tower(t, a, 0, 4)
	tower(t, a, 1, 2)
	wantClean(t, a, 1, []int{l[3], l[2]}, 2)
	wantCount(t, a, 1, 0)
	wantCount(t, a, 0, 4)
	tower(t, a, 1, 2)
	wantClean(t, a, 1, []int{l[3], l[0]}, 1)
	wantLevel(t, a, 1, l[0], 1)
	notOwn(t, a, 1, l[1])
}

func TestCleanWithNotesAsRoots(t *testing.T) {
	a := build(t, 9)
	l := tower(t, a, 0, 2)
	wantNote(t, a, 0, l[1], 7, 1, l[0])
	wantNote(t, a, 0, l[1], 7, 2, l[0])
	wantClean(t, a, 0, []int{4, l[0], 5}, 3)
	wantCount(t, a, 0, 1)
	wantLevel(t, a, 0, l[0], 1)
	noRecall(t, a, 0, l[1], 7, 1)
}

// A square may be made of squares with greater numbers than its own.
func TestCleanOfGreaterNumbers(t *testing.T) {
	a := build(t, 9)
	for i := range 4 {
		wantJoin(t, a, 0, quarters(i), i+2)
	}
	wantClean(t, a, 0, []int{5}, 3)
	wantSweep(t, a, 3)
	wantJoin(t, a, 0, four(5), 2)
	wantJoin(t, a, 0, quarters(9), 3)
	wantClean(t, a, 0, []int{2}, 1)
	wantKids(t, a, 0, 2, four(5))
	wantLevel(t, a, 0, 5, 1)
	wantCount(t, a, 0, 2)
}

func TestCleanLeavesTheRoots(t *testing.T) {
	a := build(t, 9)
	l := tower(t, a, 0, 3)
	room := []int{l[2], 0, l[0], l[0], -7, 99, 88}
	roots, before := room[:5], slices.Clone(room)
	wantClean(t, a, 0, roots, 0)
	if !slices.Equal(room, before) {
		t.Errorf("the roots are %v; were %v", room, before)
	}
	room[0] = l[0]
	wantLevel(t, a, 0, l[2], 3)
}

// P4.6

func TestCountsOfNoTenant(t *testing.T) {
	a := build(t, 9)
	for tenant := range api.Tenants {
		join(t, a, tenant, quarters(1))
	}
	before := lookAt(a)
	for _, tenant := range noTenants() {
		wantCount(t, a, tenant, 0)
		wantUndo(t, a, tenant, 0)
		wantClean(t, a, tenant, nil, 0)
		wantClean(t, a, tenant, []int{2}, 0)
	}
	wantLook(t, a, before)
}

func TestSweep(t *testing.T) {
	a := build(t, 9)
	l := tower(t, a, 0, 3)
	tower(t, a, 1, 2)
	wantNote(t, a, 0, l[2], 7, 1, l[0])
	wantNote(t, a, 1, l[1], 7, 1, l[0])
	wantSweep(t, a, 0)
	wantUndo(t, a, 0, 4)
	wantLive(t, a, 5)
	wantSweep(t, a, 2)
	wantLive(t, a, 3)
	wantSweep(t, a, 0)
	wantRecall(t, a, 1, l[1], 7, 1, l[0])
	wantKids(t, a, 1, l[1], four(l[0]))
	wantUndo(t, a, 1, 3)
	wantSweep(t, a, 3)
	wantLook(t, a, look{})
	wantJoin(t, a, 2, quarters(3), 2)
}

func TestSquares(t *testing.T) {
	a := build(t, 9)
	wantJoin(t, a, 0, quarters(1), 2)
	wantNote(t, a, 0, 2, 7, 1, 2)
	wantJoin(t, a, last, quarters(2), 4)
	wantJoin(t, a, 1, quarters(2), 4)
	wantJoin(t, a, 1, four(4), 5)
	wantJoin(t, a, 2, quarters(6), 6)
	wantUndo(t, a, 2, 1)
	wanted := []api.Square{
		{Id: 2, Level: 1, Kids: quarters(1), Mask: 1},
		{Id: 4, Level: 1, Kids: quarters(2), Mask: 1<<last | 2},
		{Id: 5, Level: 2, Kids: four(4), Mask: 2},
		{Id: 6, Level: 1, Kids: quarters(6)},
	}
	if got := a.Squares(); !slices.Equal(got, wanted) {
		t.Errorf("Squares: %v; want %v", got, wanted)
	}
	wantClean(t, a, 0, nil, 2)
	wantSweep(t, a, 3)
	if got := a.Squares(); !slices.Equal(got, wanted[1:3]) {
		t.Errorf("Squares: %v; want %v", got, wanted[1:3])
	}
	wantJoin(t, a, 3, quarters(7), 2)
	if got := a.Squares(); len(got) != 3 || got[0] != (api.Square{Id: 2, Level: 1, Kids: quarters(7), Mask: 8}) {
		t.Errorf("Squares: %v", got)
	}
}

func TestMasksOfAllTenants(t *testing.T) {
	a := build(t, 9)
	mask := uint64(0)
	for tenant := range api.Tenants {
		wantJoin(t, a, tenant, quarters(1), 2)
		mask |= 1 << tenant
		if got := a.Squares(); len(got) != 1 || got[0].Mask != mask {
			t.Errorf("Squares: %v; want the mask %x", got, mask)
		}
	}
	for tenant := range api.Tenants {
		wantUndo(t, a, tenant, 1)
		mask &^= 1 << tenant
		if got := a.Squares(); len(got) != 1 || got[0].Mask != mask {
			t.Errorf("Squares: %v; want the mask %x", got, mask)
		}
	}
}

func TestSquaresAreNewMemory(t *testing.T) {
	a := build(t, 9)
	tower(t, a, 0, 3)
	one, two := a.Squares(), a.Squares()
	for i := range one[:cap(one)] {
		one[:cap(one)][i] = api.Square{Id: 99}
	}
	if !slices.Equal(two, a.Squares()) || two[0].Id != 2 {
		t.Errorf("Squares share memory: %v", two)
	}
}

// P4.7

func TestNilArena(t *testing.T) {
	var a *arena.Arena
	for _, tenant := range append(noTenants(), 0, 1, last) {
		wantLimit(t, a, tenant, 0, api.ErrState)
		wantLimit(t, a, tenant, -1, api.ErrState)
		refuseJoin(t, a, tenant, quarters(0), api.ErrState)
		refuseJoin(t, a, tenant, four(9), api.ErrState)
		refuseNote(t, a, tenant, 0, 0, 0, 0, api.ErrState)
		refuseNote(t, a, tenant, 9, 0, 0, 9, api.ErrState)
		if e := a.Mark(tenant); e != api.ErrState {
			t.Errorf("Mark(%d): error %d; want ErrState", tenant, e)
		}
		for _, id := range []int{0, 1, 2, -1, math.MaxInt} {
			notOwn(t, a, tenant, id)
			noRecall(t, a, tenant, id, 0, 0)
		}
		wantCount(t, a, tenant, 0)
		wantUndo(t, a, tenant, 0)
		wantFresh(t, a, tenant, 0)
		wantBack(t, a, tenant, 0, 0)
		wantClean(t, a, tenant, []int{0, 2}, 0)
		wantClean(t, a, tenant, nil, 0)
	}
	wantSweep(t, a, 0)
	wantLook(t, a, look{})
}

// An arena that New has not built is one without room.
func TestZeroArena(t *testing.T) {
	var a arena.Arena
	wantLook(t, &a, look{})
	refuseJoin(t, &a, 0, quarters(0), api.ErrQuota)
	refuseNote(t, &a, 0, 0, 0, 0, 0, api.ErrQuota)
	wantLimit(t, &a, 0, 1, api.ErrRange)
	noRecall(t, &a, 0, 0, 0, 0)
	mark(t, &a, 0)
	wantUndo(t, &a, 0, 0)
	wantClean(t, &a, 0, []int{2}, 0)
	wantSweep(t, &a, 0)
}
