package house_test

import (
	"slices"
	"strconv"
	"strings"
	"testing"
	"unsafe"

	"lifelodge/api"
	"lifelodge/frame"
	"lifelodge/house"
)

// P12.4

func TestNilHouse(t *testing.T) {
	var h *house.House
	for _, tenant := range append(farOff(), 0, 1, api.Tenants-1) {
		for _, s := range []string{"", "clean\n", strings.Repeat("x", api.MaxFeed+1)} {
			if e := h.Feed(tenant, s); e != api.ErrState {
				t.Errorf("Feed(%d): error %d; want ErrState", tenant, e)
			}
		}
		if h.Out(tenant) != "" || h.Has(tenant) != 0 {
			t.Errorf("tenant %d was told %q and has %d", tenant, h.Out(tenant), h.Has(tenant))
		}
	}
	h.Tick()
	if h.Turn() || h.Live() != 0 || h.Log() != "" {
		t.Errorf("a turn, or %d things, or a log %q", h.Live(), h.Log())
	}
}

// A house that Boot has not made has no tenants.
func TestUnbuiltHouse(t *testing.T) {
	h := &house.House{}
	for _, tenant := range append(farOff(), 0, 1) {
		if e := h.Feed(tenant, "clean\n"); e != api.ErrRange {
			t.Errorf("Feed(%d): error %d; want ErrRange", tenant, e)
		}
		if h.Out(tenant) != "" || h.Has(tenant) != 0 {
			t.Errorf("tenant %d was told %q and has %d", tenant, h.Out(tenant), h.Has(tenant))
		}
	}
	if h.Turn() || h.Live() != 0 || h.Log() != "" {
		t.Errorf("a turn, or %d things, or a log %q", h.Live(), h.Log())
	}
	wantTick(t, h, "1")
}

func TestOutOfNoTenant(t *testing.T) {
	h := boot(t, may(40, 40, 40))
	for tenant := range 3 {
		ask(t, h, tenant, "new a B3/S23")
	}
	for _, tenant := range append(farOff(), 3, 4, api.Tenants-1) {
		if h.Out(tenant) != "" || h.Has(tenant) != 0 {
			t.Errorf("tenant %d was told %q and has %d", tenant, h.Out(tenant), h.Has(tenant))
		}
	}
}

// Out is all that was told, from the beginning, and looking at it changes nothing.
func TestOut(t *testing.T) {
	h := boot(t, may(40, 40))
	wanted := ""
	for i := range 20 {
		feed(t, h, 0, "clean\nwhat\n")
		feed(t, h, 1, "\n")
		for range 2 {
			wantOut(t, h.Out(0), wanted)
			wantOut(t, h.Out(1), strings.Repeat(frame.Wrap("no 4"), i))
		}
		turnAll(h)
		wanted += frame.Wrap("count 0") + frame.Wrap("no 4")
		wantOut(t, h.Out(0), wanted)
	}
}

// What was told once is the asker's: whatever becomes of it, the house still has it.
func TestOutAndLogAreNewMemory(t *testing.T) {
	h := boot(t, may(40))
	ask(t, h, 0, "clean", "what")
	h.Tick()
	for range 2 {
		for _, s := range []string{h.Out(0), h.Log()} {
			bytes := unsafe.Slice(unsafe.StringData(s), len(s))
			for i := range bytes {
				bytes[i] = 'x'
			}
		}
		wantTold(t, h, 0, "count 0", "no 4")
		if h.Log() != "1 0\n" {
			t.Errorf("the log is %q", h.Log())
		}
	}
}

// What was told, and the log, go on without touching what was answered ahead.
func TestOutAndLogStay(t *testing.T) {
	h := boot(t, may(40))
	var outs, logs []string
	for range 50 {
		ask(t, h, 0, "clean")
		h.Tick()
		outs, logs = append(outs, h.Out(0)), append(logs, h.Log())
	}
	for i := range outs {
		if outs[i] != strings.Repeat(frame.Wrap("count 0"), i+1) || strings.Count(logs[i], "\n") != i+1 || !strings.HasPrefix(logs[49], logs[i]) {
			t.Errorf("answer %d became %q, %q", i, outs[i], logs[i])
		}
	}
}

func wantThings(t *testing.T, h *house.House, live int, has ...int) {
	t.Helper()
	for tenant, n := range has {
		if h.Has(tenant) != n {
			t.Errorf("tenant %d has %d; want %d", tenant, h.Has(tenant), n)
		}
	}
	if h.Live() != live {
		t.Errorf("there are %d things; want %d", h.Live(), live)
	}
}

// Each pays for all that it has, and what two have is there once.
func TestHasAndLive(t *testing.T) {
	h := boot(t, may(100, 100, 100))
	wantThings(t, h, 0, 0, 0, 0)
	feed(t, h, 0, "new a B3/S23\n")
	wantThings(t, h, 0, 0, 0, 0)
	turn(t, h, 1)
	wantThings(t, h, 2, 2, 0, 0)
	ask(t, h, 2, "new other B1/S1")
	wantThings(t, h, 2, 2, 0, 2)
	ask(t, h, 2, "set other 0,0 1,0 2,0")
	n := h.Has(2)
	if n <= 2 {
		t.Fatalf("cells cost nothing: it has %d", n)
	}
	wantThings(t, h, n, 2, 0, n)
	ask(t, h, 0, "set a 0,0 1,0 2,0")
	wantThings(t, h, n, n, 0, n)
	ask(t, h, 1, "new a B3/S23", "set a -1,-1")
	m := h.Has(1)
	if h.Live() <= n || h.Live() >= n+m {
		t.Errorf("there are %d things of %d and %d", h.Live(), n, m)
	}
	live := h.Live()
	ask(t, h, 0, "drop a", "clean")
	wantThings(t, h, live, 0, m, n)
	ask(t, h, 1, "get a", "box a", "lease a 1", "count b", "what", "copy a b")
	wantThings(t, h, live, 0, m, n)
}

// P12.4: Tick, Log

func TestLog(t *testing.T) {
	h := boot(t, may(40, 40, 40))
	if h.Log() != "" {
		t.Errorf("a new house's log is %q", h.Log())
	}
	wantTick(t, h, "1 0 0 0")
	feed(t, h, 1, "clean\nclean\ncle")
	wantTick(t, h, "2 0 2 0")
	wantTick(t, h, "3 0 2 0")
	feed(t, h, 2, strings.Repeat("\n", 8))
	feed(t, h, 0, strings.Repeat("\n", 9))
	wantTick(t, h, "4 8 2 8")
	turn(t, h, 1)
	wantTick(t, h, "5 8 2 8")
	turn(t, h, 2)
	wantTick(t, h, "6 8 1 7")
	turn(t, h, 1)
	wantTick(t, h, "7 7 1 7")
	turnAll(h)
	feed(t, h, 1, "an\n")
	wantTick(t, h, "8 0 1 0")
	if s := h.Log(); s != "1 0 0 0\n2 0 2 0\n3 0 2 0\n4 8 2 8\n5 8 2 8\n6 8 1 7\n7 7 1 7\n8 0 1 0\n" {
		t.Errorf("the log is %q", s)
	}
}

func TestLogOfManyTicks(t *testing.T) {
	h := boot(t, may(slices.Repeat([]int{1}, api.Tenants)...))
	feed(t, h, api.Tenants-1, "\n")
	wanted := strings.Builder{}
	for i := range 20000 {
		h.Tick()
		wanted.WriteString(strconv.Itoa(i+1) + strings.Repeat(" 0", api.Tenants-1) + " 1\n")
	}
	if h.Log() != wanted.String() {
		t.Errorf("the log of many Ticks is another one")
	}
}

// Ticks tell nobody anything, and move nothing.
func TestTicksChangeNothingElse(t *testing.T) {
	g, h := boot(t, may(40, 40)), boot(t, may(40, 40))
	for _, s := range []string{"new a B3/S23\n", "set a 0,0", "\nget a\nclean\n", strings.Repeat("count a\n", 20)} {
		for _, x := range []*house.House{g, h} {
			feed(t, x, 0, s)
			feed(t, x, 1, s)
			x.Turn()
			x.Turn()
			x.Turn()
		}
		g.Tick()
	}
	turnAll(g)
	turnAll(h)
	a, b := lookAt(g), lookAt(h)
	a.log = ""
	if !a.same(b) {
		t.Errorf("with Ticks there is %v; without %v", a, b)
	}
}
