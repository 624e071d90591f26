package turns_test

import (
	"math/rand"
	"runtime"
	"slices"
	"strconv"
	"strings"
	"testing"

	"lifelodge/api"
	"lifelodge/turns"
)

// P11.3

func TestPopOneTenantAlone(t *testing.T) {
	for _, n := range []int{1, 2, 7, api.Tenants} {
		for _, tenant := range []int{0, n / 2, n - 1} {
			q := build(t, n)
			push(t, q, tenant, "a", "b", "c")
			wantPops(t, q, served{tenant, "a"}, served{tenant, "b"})
			push(t, q, tenant, "d")
			wantPops(t, q, served{tenant, "c"}, served{tenant, "d"})
			wantNothing(t, q)
		}
	}
}

func TestPopPassesThoseOfWhomNothingWaits(t *testing.T) {
	q := build(t, 6)
	push(t, q, 4, "a", "b")
	push(t, q, 1, "c", "d", "e")
	push(t, q, 3, "f")
	wantPops(t, q, served{1, "c"}, served{3, "f"}, served{4, "a"}, served{1, "d"}, served{4, "b"}, served{1, "e"})
	wantNothing(t, q)
}

// TestPopGoesRound: behind the last tenant comes the first one, whoever was served last.
func TestPopGoesRound(t *testing.T) {
	for n := 1; n <= api.Tenants; n++ {
		for _, last := range []int{0, n / 2, n - 1} {
			q := build(t, n)
			push(t, q, last, "ahead")
			wantPops(t, q, served{last, "ahead"})
			for tenant := range n {
				push(t, q, tenant, "x")
			}
			for i := range n {
				wantPops(t, q, served{(last + 1 + i) % n, "x"})
			}
			wantNothing(t, q)
		}
	}
}

// TestPopOfNothingLeavesWhoIsNext: neither back to 0 nor on by one.
func TestPopOfNothingLeavesWhoIsNext(t *testing.T) {
	for last := range 5 {
		for pops := range 7 {
			q := build(t, 5)
			push(t, q, last, "ahead")
			wantPops(t, q, served{last, "ahead"})
			for range pops {
				q.Pop()
			}
			for tenant := range 5 {
				push(t, q, tenant, "x")
			}
			wantPops(t, q, served{(last + 1) % 5, "x"}, served{(last + 2) % 5, "x"})
		}
	}
}

func TestPushBetweenPops(t *testing.T) {
	q := build(t, 4)
	push(t, q, 1, "a", "b")
	wantPops(t, q, served{1, "a"})
	// Tenant 2 stands between the one that was served and tenant 0, though it comes later.
	push(t, q, 0, "c")
	push(t, q, 2, "d")
	wantPops(t, q, served{2, "d"})
	push(t, q, 2, "e")
	push(t, q, 3, "f")
	wantPops(t, q, served{3, "f"}, served{0, "c"})
	push(t, q, 0, "g")
	wantPops(t, q, served{1, "b"}, served{2, "e"}, served{0, "g"})
	wantNothing(t, q)
}

// TestPopServesNobodyTwice while something of another tenant waits, however much one pushes.
func TestPopServesNobodyTwice(t *testing.T) {
	q := build(t, 3)
	push(t, q, 0, things(api.MaxQueue)...)
	push(t, q, 1, "a", "b", "c")
	push(t, q, 2, "d", "e", "f")
	before := -1
	for range 9 {
		tenant, _, ok := q.Pop()
		if !ok || tenant == before {
			t.Errorf("Pop: tenant %d, %v, behind tenant %d", tenant, ok, before)
		}
		before = tenant
		if tenant == 0 {
			push(t, q, 0, "more")
		}
	}
	wantWaits(t, q, api.MaxQueue, 0, 0)
}

// TestPopLetsNobodyStarve: whatever others do, a tenant of whom something waits is served within one round.
func TestPopLetsNobodyStarve(t *testing.T) {
	r := rand.New(rand.NewSource(11))
	for range 200 {
		n := 1 + r.Intn(api.Tenants)
		q := build(t, n)
		quiet := r.Intn(n)
		for i := range r.Intn(3 * n) {
			push(t, q, i%n, "x")
			q.Pop()
		}
		push(t, q, quiet, "wanted")
		pops := 0
		for q.Waits(quiet) > 0 {
			for tenant := range n {
				if tenant != quiet {
					q.Push(tenant, "y")
				}
			}
			q.Pop()
			if pops++; pops > n {
				t.Fatalf("tenant %d of %d waits for more than %d pops", quiet, n, n)
			}
		}
	}
}

func TestPopFilledAndEmptiedManyTimes(t *testing.T) {
	for _, n := range []int{1, 3, api.Tenants} {
		q := build(t, n)
		for round := range 300 {
			for tenant := range n {
				for i := range api.MaxQueue {
					push(t, q, tenant, strconv.Itoa(round)+" "+strconv.Itoa(i))
				}
				refusePush(t, q, tenant, api.ErrFull)
			}
			for i := range api.MaxQueue {
				for tenant := range n {
					wantPops(t, q, served{tenant, strconv.Itoa(round) + " " + strconv.Itoa(i)})
				}
			}
			wantNothing(t, q)
		}
	}
}

// TestPopWhileAlwaysFull: a list of which the head goes as often as its tail comes.
func TestPopWhileAlwaysFull(t *testing.T) {
	q := build(t, 2)
	for i := range api.MaxQueue {
		push(t, q, 1, strconv.Itoa(i))
	}
	for i := range 10000 {
		refusePush(t, q, 1, api.ErrFull)
		wantPops(t, q, served{1, strconv.Itoa(i)})
		push(t, q, 1, strconv.Itoa(i+api.MaxQueue))
	}
	wantWaits(t, q, 0, api.MaxQueue)
}

// TestPopKeepsNothing: what waits no more is not held on to.
func TestPopKeepsNothing(t *testing.T) {
	held := func() uint64 {
		runtime.GC()
		var m runtime.MemStats
		runtime.ReadMemStats(&m)
		return m.HeapAlloc
	}
	q := build(t, api.Tenants)
	big := strings.Repeat("x", 1<<17)
	before := held()
	for tenant := range api.Tenants {
		for range api.MaxQueue {
			push(t, q, tenant, big)
		}
	}
	for range api.Tenants * api.MaxQueue {
		q.Pop()
	}
	if after := held(); after > before+1<<22 {
		t.Errorf("%d bytes are held for what waits no more", after-before)
	}
	push(t, q, 0, "x")
	wantPops(t, q, served{0, "x"})
}

// P11.4

func TestNilTurns(t *testing.T) {
	var none *turns.Turns
	for _, tenant := range append([]int{0, 1, api.Tenants - 1}, farOff...) {
		refusePush(t, none, tenant, api.ErrState)
		if n := none.Waits(tenant); n != 0 {
			t.Errorf("Waits(%d) of nil turns: %d; want 0", tenant, n)
		}
	}
	for range 2 * api.MaxQueue {
		refusePush(t, none, 0, api.ErrState)
	}
	wantNothing(t, none)
	refused, _ := turns.New(0)
	refusePush(t, refused, 0, api.ErrState)
	wantWaits(t, refused)
	wantNothing(t, refused)
}

// TestTurnsThatNewHasNotMade: turns without tenants, so each tenant is none of them.
func TestTurnsThatNewHasNotMade(t *testing.T) {
	q := new(turns.Turns)
	for _, tenant := range append([]int{0, 1}, farOff...) {
		refusePush(t, q, tenant, api.ErrRange)
	}
	wantWaits(t, q)
	wantNothing(t, q)
}

// The whole against a model: all that waits in one list, in the order in which it came.

type model struct {
	n, next int
	waiting []served
}

func (m *model) of(tenant int) []served {
	return slices.DeleteFunc(slices.Clone(m.waiting), func(s served) bool { return s.tenant != tenant })
}

func (m *model) push(tenant int, s string) api.Errno {
	if tenant < 0 || tenant >= m.n {
		return api.ErrRange
	}
	if len(m.of(tenant)) == api.MaxQueue {
		return api.ErrFull
	}
	m.waiting = append(m.waiting, served{tenant, s})
	return api.OK
}

// pop is the first one of those that are fewest places behind the next one.
func (m *model) pop() (served, bool) {
	best := -1
	away := func(i int) int { return (m.waiting[i].tenant - m.next + m.n) % m.n }
	for i := range m.waiting {
		if best < 0 || away(i) < away(best) {
			best = i
		}
	}
	if best < 0 {
		return served{}, false
	}
	s := m.waiting[best]
	m.waiting = slices.Delete(m.waiting, best, best+1)
	m.next = (s.tenant + 1) % m.n
	return s, true
}

// wantLikeModel does one deed to both.
func wantLikeModel(t *testing.T, q *turns.Turns, m *model, push bool, tenant int, text string) {
	t.Helper()
	if push {
		if got, wanted := q.Push(tenant, text), m.push(tenant, text); got != wanted {
			t.Fatalf("Push(%d, %q): error %d; want %d", tenant, text, got, wanted)
		}
	} else {
		got, s, ok := q.Pop()
		if wanted, is := m.pop(); (served{got, s}) != wanted || ok != is {
			t.Fatalf("Pop: %d, %q, %v; want %v, %v", got, s, ok, wanted, is)
		}
	}
	if got, wanted := q.Waits(tenant), len(m.of(tenant)); got != wanted {
		t.Fatalf("Waits(%d): %d; want %d", tenant, got, wanted)
	}
}

func TestManyDeeds(t *testing.T) {
	r := rand.New(rand.NewSource(3))
	for run := range 300 {
		n := 1 + r.Intn(6)
		if run%10 == 0 {
			n = 1 + r.Intn(api.Tenants)
		}
		q, m := build(t, n), &model{n: n}
		// Some runs mostly push, so that queues are full, some mostly pop, so that they are empty.
		pushes := 2 + r.Intn(7)
		for i := range 400 {
			wantLikeModel(t, q, m, r.Intn(10) < pushes, r.Intn(n+2)-1, strconv.Itoa(i))
		}
	}
}

// TestAllShortDeeds goes through each order of eight deeds, of three tenants.
func TestAllShortDeeds(t *testing.T) {
	const kinds, deeds = 4, 8
	all := 1
	for range deeds {
		all *= kinds
	}
	for code := range all {
		q, m := build(t, 3), &model{n: 3}
		for i := range deeds {
			deed := code % kinds
			code /= kinds
			wantLikeModel(t, q, m, deed < 3, deed, strconv.Itoa(i))
		}
	}
}
