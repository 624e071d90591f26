package turns_test

import (
	"math"
	"slices"
	"strconv"
	"strings"
	"testing"
	"unsafe"

	"lifelodge/api"
	"lifelodge/turns"
)

// served is what a Pop answers.
type served struct {
	tenant int
	text   string
}

// farOff is numbers that are tenants of no turns.
var farOff = []int{-1, -2, -api.Tenants, api.Tenants, api.Tenants + 1, 1 << 32, -1 << 32, math.MaxInt, math.MinInt, math.MinInt + 1}

func build(t *testing.T, n int) *turns.Turns {
	t.Helper()
	q, e := turns.New(n)
	if e != api.OK || q == nil {
		t.Fatalf("New(%d): %v, error %d; want turns", n, q, e)
	}
	return q
}

func push(t *testing.T, q *turns.Turns, tenant int, texts ...string) {
	t.Helper()
	for _, s := range texts {
		if e := q.Push(tenant, s); e != api.OK {
			t.Errorf("Push(%d, %q): error %d; want none", tenant, s, e)
		}
	}
}

func refusePush(t *testing.T, q *turns.Turns, tenant int, wanted api.Errno) {
	t.Helper()
	for _, s := range []string{"", "x", "\x00"} {
		if e := q.Push(tenant, s); e != wanted {
			t.Errorf("Push(%d, %q): error %d; want %d", tenant, s, e, wanted)
		}
	}
}

// wantWaits asks how many things of each tenant wait, and of those around them, of whom nothing does.
func wantWaits(t *testing.T, q *turns.Turns, wanted ...int) {
	t.Helper()
	for tenant, n := range wanted {
		if got := q.Waits(tenant); got != n {
			t.Errorf("Waits(%d): %d; want %d", tenant, got, n)
		}
	}
	for _, tenant := range append([]int{len(wanted), len(wanted) + 1}, farOff...) {
		if got := q.Waits(tenant); got != 0 {
			t.Errorf("Waits(%d) of %d tenants: %d; want 0", tenant, len(wanted), got)
		}
	}
}

func wantPops(t *testing.T, q *turns.Turns, wanted ...served) {
	t.Helper()
	for i, w := range wanted {
		if tenant, s, ok := q.Pop(); tenant != w.tenant || s != w.text || !ok {
			t.Errorf("Pop %d: %d, %q, %v; want %d, %q, true", i, tenant, s, ok, w.tenant, w.text)
		}
	}
}

// wantNothing asks twice: a Pop of nothing is to leave things so.
func wantNothing(t *testing.T, q *turns.Turns) {
	t.Helper()
	for range 2 {
		if tenant, s, ok := q.Pop(); tenant != 0 || s != "" || ok {
			t.Errorf("Pop of nothing: %d, %q, %v; want 0, an empty text, false", tenant, s, ok)
		}
	}
}

// things is n different texts.
func things(n int) []string {
	var l []string
	for i := range n {
		l = append(l, "thing "+strconv.Itoa(i))
	}
	return l
}

// P11.1

func TestNew(t *testing.T) {
	for n := 1; n <= api.Tenants; n++ {
		q := build(t, n)
		wantWaits(t, q, make([]int, n)...)
		wantNothing(t, q)
	}
}

func TestNewRefuses(t *testing.T) {
	for _, n := range []int{0, -1, -2, -api.Tenants, api.Tenants + 1, api.Tenants + 2, 1 << 32, 1<<32 + 1, math.MaxInt, math.MinInt, math.MinInt + 1} {
		if q, e := turns.New(n); q != nil || e != api.ErrRange {
			t.Errorf("New(%d): %v, error %d; want nil, error %d", n, q, e, api.ErrRange)
		}
	}
}

// TestNewServesTenant0First: and it is still next, if a Pop found nothing.
func TestNewServesTenant0First(t *testing.T) {
	for n := 1; n <= api.Tenants; n++ {
		for _, pops := range []int{0, 1, 3, 100} {
			q := build(t, n)
			for range pops {
				q.Pop()
			}
			for tenant := n - 1; tenant >= 0; tenant-- {
				push(t, q, tenant, "x")
			}
			for tenant := range n {
				wantPops(t, q, served{tenant, "x"})
			}
		}
	}
}

func TestTurnsAreApart(t *testing.T) {
	one, two := build(t, 3), build(t, 3)
	push(t, one, 0, "a", "b")
	push(t, two, 2, "c")
	wantWaits(t, one, 2, 0, 0)
	wantWaits(t, two, 0, 0, 1)
	wantPops(t, one, served{0, "a"})
	push(t, two, 0, "d")
	wantPops(t, two, served{0, "d"}, served{2, "c"})
	wantPops(t, one, served{0, "b"})
}

func TestWaitsCountsEachTenant(t *testing.T) {
	q := build(t, api.Tenants)
	wanted := make([]int, api.Tenants)
	for tenant := range wanted {
		wanted[tenant] = tenant % (api.MaxQueue + 1)
		push(t, q, tenant, things(wanted[tenant])...)
	}
	wantWaits(t, q, wanted...)
	// The first round serves all of whom something waits, once each.
	for tenant, n := range wanted {
		if n > 0 {
			wantPops(t, q, served{tenant, "thing 0"})
			wanted[tenant]--
			wantWaits(t, q, wanted...)
		}
	}
}

// TestWaitsChangesNothing: neither what waits nor who is next.
func TestWaitsChangesNothing(t *testing.T) {
	q := build(t, 3)
	push(t, q, 0, "a", "b")
	push(t, q, 2, "c")
	for range 3 {
		wantWaits(t, q, 2, 0, 1)
	}
	wantPops(t, q, served{0, "a"})
	for range 3 {
		wantWaits(t, q, 1, 0, 1)
	}
	wantPops(t, q, served{2, "c"}, served{0, "b"})
	wantWaits(t, q, 0, 0, 0)
	wantNothing(t, q)
}

// P11.2

func TestPushOfNoTenant(t *testing.T) {
	for _, n := range []int{1, 2, 5, api.Tenants} {
		q := build(t, n)
		for _, tenant := range append([]int{n, n + 1, 2 * n}, farOff...) {
			if tenant < 0 || tenant >= n {
				refusePush(t, q, tenant, api.ErrRange)
			}
		}
		wantWaits(t, q, make([]int, n)...)
		wantNothing(t, q)
		push(t, q, n-1, "last")
		wantPops(t, q, served{n - 1, "last"})
		wantNothing(t, q)
	}
}

func TestPushMaxQueue(t *testing.T) {
	for _, n := range []int{1, 3, api.Tenants} {
		for _, tenant := range []int{0, n / 2, n - 1} {
			q := build(t, n)
			wanted := make([]int, n)
			for i, s := range things(api.MaxQueue) {
				push(t, q, tenant, s)
				wanted[tenant] = i + 1
				wantWaits(t, q, wanted...)
			}
			refusePush(t, q, tenant, api.ErrFull)
			wantWaits(t, q, wanted...)
			for _, s := range things(api.MaxQueue) {
				wantPops(t, q, served{tenant, s})
			}
			wantNothing(t, q)
		}
	}
}

// TestPushFullIsATenantsOwn: others may still have as much.
func TestPushFullIsATenantsOwn(t *testing.T) {
	q := build(t, api.Tenants)
	full := make([]int, api.Tenants)
	for tenant := range full {
		push(t, q, tenant, things(api.MaxQueue)...)
		full[tenant] = api.MaxQueue
		refusePush(t, q, tenant, api.ErrFull)
		wantWaits(t, q, full...)
	}
	for _, s := range things(api.MaxQueue) {
		for tenant := range full {
			wantPops(t, q, served{tenant, s})
		}
	}
	wantNothing(t, q)
}

// TestPushRangeAheadOfFull: while all are full, one that is none is told that it is none.
func TestPushRangeAheadOfFull(t *testing.T) {
	q := build(t, 2)
	push(t, q, 0, things(api.MaxQueue)...)
	push(t, q, 1, things(api.MaxQueue)...)
	for _, tenant := range append([]int{2, 3, 4}, farOff...) {
		refusePush(t, q, tenant, api.ErrRange)
	}
	refusePush(t, q, 0, api.ErrFull)
	refusePush(t, q, 1, api.ErrFull)
	wantWaits(t, q, api.MaxQueue, api.MaxQueue)
}

// TestRefusedPushLeavesWhoIsNext: halfway round, a refusal moves nobody.
func TestRefusedPushLeavesWhoIsNext(t *testing.T) {
	q := build(t, 3)
	push(t, q, 0, things(api.MaxQueue)...)
	push(t, q, 1, "a", "b")
	wantPops(t, q, served{0, "thing 0"})
	push(t, q, 0, "more")
	refusePush(t, q, 0, api.ErrFull)
	refusePush(t, q, 3, api.ErrRange)
	refusePush(t, q, -1, api.ErrRange)
	wantWaits(t, q, api.MaxQueue, 2, 0)
	wantPops(t, q, served{1, "a"}, served{0, "thing 1"}, served{1, "b"})
}

func TestPushAfterOneWasServed(t *testing.T) {
	q := build(t, 2)
	push(t, q, 1, things(api.MaxQueue)...)
	refusePush(t, q, 1, api.ErrFull)
	wantPops(t, q, served{1, "thing 0"})
	push(t, q, 1, "new")
	refusePush(t, q, 1, api.ErrFull)
	for _, s := range things(api.MaxQueue)[1:] {
		wantPops(t, q, served{1, s})
	}
	wantPops(t, q, served{1, "new"})
	wantNothing(t, q)
}

// TestPushTakesAllTexts: what a thing is made of is not asked, and the same one may wait twice.
func TestPushTakesAllTexts(t *testing.T) {
	texts := []string{"", " ", "a", "a", "\n", "\x00", "\xff\xfe", "ä\u2028", strings.Repeat("x", api.MaxLine+1), strings.Repeat("\x00", 1<<20)}
	for b := range 256 {
		texts = append(texts, string([]byte{byte(b)}))
	}
	q := build(t, 2)
	for some := range slices.Chunk(texts, api.MaxQueue) {
		push(t, q, 1, some...)
		wantWaits(t, q, 0, len(some))
		for _, s := range some {
			wantPops(t, q, served{1, s})
		}
		wantNothing(t, q)
	}
}

// TestPushKeepsACopy: a text that is a piece of a longer one would hold on to all of it, and one of bytes that are written to would change while it waits.
func TestPushKeepsACopy(t *testing.T) {
	bytes := []byte(strings.Repeat("z", 5000))
	piece := unsafe.String(&bytes[100], 4)
	q := build(t, 1)
	push(t, q, 0, piece)
	for i := range bytes {
		bytes[i] = '?'
	}
	wantPops(t, q, served{0, "zzzz"})
}
