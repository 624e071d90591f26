package house_test

import (
	"math"
	"slices"
	"strings"
	"testing"

	"lifelodge/api"
	"lifelodge/frame"
	"lifelodge/house"
)

// farOff is numbers that are tenants of no house.
func farOff() []int {
	return []int{-1, -2, -api.Tenants, api.Tenants, api.Tenants + 1, 1 << 32, -1 << 32, math.MaxInt, math.MinInt, math.MinInt + 1}
}

// may is how a house is built that has just enough room.
func may(quotas ...int) api.Config {
	room := 0
	for _, n := range quotas {
		room += n
	}
	return api.Config{Room: room, Quotas: quotas}
}

// boot is a house whose tenants all have the draw 0.
func boot(t *testing.T, c api.Config) *house.House {
	t.Helper()
	h, e := house.Boot(c, make([]int, len(c.Quotas)))
	if e != api.OK || h == nil {
		t.Fatalf("Boot(%v): %v, error %d; want a house", c, h, e)
	}
	return h
}

func feed(t *testing.T, h *house.House, tenant int, pieces ...string) {
	t.Helper()
	for _, s := range pieces {
		if e := h.Feed(tenant, s); e != api.OK {
			t.Fatalf("Feed(%d, %d bytes): error %d; want none", tenant, len(s), e)
		}
	}
}

// turn wants so many turns to be taken.
func turn(t *testing.T, h *house.House, n int) {
	t.Helper()
	for i := range n {
		if !h.Turn() {
			t.Fatalf("turn %d of %d: there is none", i, n)
		}
	}
}

// turnAll takes all turns there are, and tells how many.
func turnAll(h *house.House) int {
	n := 0
	for h.Turn() {
		n++
	}
	return n
}

func unwrap(t *testing.T, s string) []string {
	t.Helper()
	l, e := frame.Unwrap(s)
	if e != api.OK {
		t.Fatalf("what was told is no frames: %q", s)
	}
	return l
}

func wantTold(t *testing.T, h *house.House, tenant int, wanted ...string) {
	t.Helper()
	if l := unwrap(t, h.Out(tenant)); !slices.Equal(l, wanted) {
		t.Errorf("tenant %d was told %q; want %q", tenant, l, wanted)
	}
}

// ask feeds lines to a tenant, takes all turns, and tells what it was told of them.
func ask(t *testing.T, h *house.House, tenant int, lines ...string) []string {
	t.Helper()
	had := len(unwrap(t, h.Out(tenant)))
	for _, line := range lines {
		feed(t, h, tenant, line+"\n")
	}
	turnAll(h)
	return unwrap(t, h.Out(tenant))[had:]
}

func wantAnswers(t *testing.T, h *house.House, tenant int, asked []string, wanted ...string) {
	t.Helper()
	if l := ask(t, h, tenant, asked...); !slices.Equal(l, wanted) {
		t.Errorf("tenant %d was told %q of %q; want %q", tenant, l, asked, wanted)
	}
}

// wantTick wants the line that a Tick writes behind those that were there.
func wantTick(t *testing.T, h *house.House, wanted string) {
	t.Helper()
	had := h.Log()
	h.Tick()
	if s := h.Log(); s != had+wanted+"\n" {
		t.Errorf("the log %q became %q; want %q more", had, s, wanted)
	}
}

// look is all that can be seen of a house, but for its tenants' requests that wait.
type look struct {
	outs []string
	has  []int
	live int
	log  string
}

func lookAt(h *house.House) look {
	l := look{live: h.Live(), log: h.Log()}
	for tenant := range api.Tenants {
		l.outs = append(l.outs, h.Out(tenant))
		l.has = append(l.has, h.Has(tenant))
	}
	return l
}

func (l look) same(m look) bool {
	return l.live == m.live && l.log == m.log && slices.Equal(l.outs, m.outs) && slices.Equal(l.has, m.has)
}

// P12.1: Check

func wantCheck(t *testing.T, c api.Config, wanted api.Errno) {
	t.Helper()
	if e := house.Check(c); e != wanted {
		t.Errorf("Check(%v): error %d; want %d", c, e, wanted)
	}
	h, e := house.Boot(c, make([]int, len(c.Quotas)))
	if e != wanted || (h == nil) != (wanted != api.OK) {
		t.Errorf("Boot(%v): %v, error %d; want error %d", c, h, e, wanted)
	}
	if outs, e := house.Run(c, make([]int, len(c.Quotas)), nil); e != wanted || wanted != api.OK && len(outs) > 0 {
		t.Errorf("Run(%v): %q, error %d; want error %d", c, outs, e, wanted)
	}
}

func TestCheckRoom(t *testing.T) {
	for _, room := range []int{0, 1, 2, 1000, api.MaxRoom - 1, api.MaxRoom} {
		wantCheck(t, api.Config{Room: room, Quotas: []int{0}}, api.OK)
		wantCheck(t, api.Config{Room: room, Quotas: []int{room}}, api.OK)
		wantCheck(t, api.Config{Room: room, Quotas: make([]int, api.Tenants)}, api.OK)
	}
	for _, room := range []int{-1, -2, api.MaxRoom + 1, 2 * api.MaxRoom, 1 << 32, math.MaxInt, math.MinInt, math.MinInt + 1} {
		for _, quotas := range [][]int{nil, {0}, {room}, {-1}, {0, 0}, {math.MaxInt, math.MaxInt}, make([]int, api.Tenants), make([]int, api.Tenants+1)} {
			wantCheck(t, api.Config{Room: room, Quotas: quotas}, api.ErrRange)
		}
	}
}

func TestCheckHowManyQuotas(t *testing.T) {
	for _, room := range []int{0, 1000, api.MaxRoom} {
		for n := 1; n <= api.Tenants; n++ {
			wantCheck(t, api.Config{Room: room, Quotas: make([]int, n)}, api.OK)
		}
		for _, n := range []int{api.Tenants + 1, api.Tenants + 2, 2 * api.Tenants, 100000} {
			wantCheck(t, api.Config{Room: room, Quotas: make([]int, n)}, api.ErrRange)
		}
		wantCheck(t, api.Config{Room: room}, api.ErrRange)
		wantCheck(t, api.Config{Room: room, Quotas: []int{}}, api.ErrRange)
	}
}

func TestCheckEachQuota(t *testing.T) {
	for _, n := range []int{1, 2, 3, api.Tenants} {
		for i := range n {
			quotas := make([]int, n)
			for _, q := range []int{0, 1, 99, 100} {
				quotas[i] = q
				wantCheck(t, api.Config{Room: 100, Quotas: quotas}, api.OK)
			}
			for _, q := range []int{-1, -100, 101, api.MaxRoom, math.MaxInt, math.MinInt} {
				quotas[i] = q
				wantCheck(t, api.Config{Room: 100, Quotas: quotas}, api.ErrRange)
			}
		}
	}
	wantCheck(t, api.Config{Quotas: []int{1}}, api.ErrRange)
	wantCheck(t, api.Config{Quotas: []int{0, 0, 1}}, api.ErrRange)
}

func TestCheckQuotasTogether(t *testing.T) {
	for _, quotas := range [][]int{{50, 50}, {0, 100}, {100, 0}, {1, 98, 1}, {25, 25, 25, 25}, {100}} {
		wantCheck(t, api.Config{Room: 100, Quotas: quotas}, api.OK)
		wantCheck(t, api.Config{Room: 100, Quotas: append(slices.Clone(quotas), 0)}, api.OK)
		wantCheck(t, api.Config{Room: 100, Quotas: append(slices.Clone(quotas), 1)}, api.ErrFull)
		wantCheck(t, api.Config{Room: 100, Quotas: append([]int{1}, quotas...)}, api.ErrFull)
	}
	even := slices.Repeat([]int{api.MaxRoom / api.Tenants}, api.Tenants)
	wantCheck(t, api.Config{Room: api.MaxRoom, Quotas: even}, api.OK)
	even[0] += api.MaxRoom % api.Tenants
	wantCheck(t, api.Config{Room: api.MaxRoom, Quotas: even}, api.OK)
	even[api.Tenants-1]++
	wantCheck(t, api.Config{Room: api.MaxRoom, Quotas: even}, api.ErrFull)
	wantCheck(t, api.Config{Room: api.MaxRoom, Quotas: slices.Repeat([]int{api.MaxRoom}, api.Tenants)}, api.ErrFull)
}

// A quota that is none is told, wherever it stands, ahead of what all of them are together.
func TestCheckTellsRangeFirst(t *testing.T) {
	for _, quotas := range [][]int{{100, 100, -1}, {100, -1, 100}, {-1, 100, 100}, {100, 100, 101}, {60, 60, 60, math.MaxInt}, {101, -1}, {101, 100},
		slices.Repeat([]int{100}, api.Tenants+1)} {
		wantCheck(t, api.Config{Room: 100, Quotas: quotas}, api.ErrRange)
	}
}

// P12.1: Boot

func TestBoot(t *testing.T) {
	for _, n := range []int{1, 2, 3, api.Tenants} {
		h := boot(t, api.Config{Room: 1000, Quotas: make([]int, n)})
		if l := lookAt(h); !l.same(lookAt(nil)) {
			t.Errorf("a new house of %d tenants: %v; want nothing", n, l)
		}
		if h.Turn() {
			t.Errorf("a turn in a new house")
		}
		wantTick(t, h, "1"+strings.Repeat(" 0", n))
	}
}

func TestBootDraws(t *testing.T) {
	for _, n := range []int{1, 2, api.Tenants} {
		for _, draws := range []int{0, n - 1, n + 1, 2 * n, 1000} {
			if h, e := house.Boot(may(make([]int, n)...), make([]int, draws)); h != nil || e != api.ErrRange {
				t.Errorf("%d draws for %d quotas: %v, error %d; want ErrRange", draws, n, h, e)
			}
			if outs, e := house.Run(may(make([]int, n)...), make([]int, draws), make([]api.Deed, api.MaxDeeds+1)); len(outs) > 0 || e != api.ErrRange {
				t.Errorf("Run with %d draws for %d quotas: %q, error %d; want ErrRange", draws, n, outs, e)
			}
		}
	}
	for _, draw := range []int{0, 1, -1, math.MaxInt, math.MinInt} {
		if h, e := house.Boot(may(9, 9), []int{draw, 5}); h == nil || e != api.OK {
			t.Errorf("a draw of %d: %v, error %d", draw, h, e)
		}
	}
}

// What Check says is told ahead of draws that are too few or too many.
func TestBootTellsChecksErrorsFirst(t *testing.T) {
	for _, draws := range [][]int{nil, {1}, {1, 2}, {1, 2, 3}} {
		if h, e := house.Boot(api.Config{Room: 10, Quotas: []int{5, 6}}, draws); h != nil || e != api.ErrFull {
			t.Errorf("draws %v: %v, error %d; want ErrFull", draws, h, e)
		}
	}
}

// Each tenant may have as much as its quota says, and no more.
func TestBootQuotas(t *testing.T) {
	asked := []string{"new a B3/S23", "set a 0,0 1,0 2,0"}
	rich := boot(t, may(api.MaxRoom))
	wantAnswers(t, rich, 0, asked[:1], "ok")
	bare := rich.Has(0)
	wantAnswers(t, rich, 0, asked[1:], "ok")
	need := rich.Has(0)
	h := boot(t, may(0, need, bare-1, need-1, bare, need+1))
	for tenant, wanted := range [][]string{{"no 9", "no 6"}, {"ok", "ok"}, {"no 9", "no 6"}, {"ok", "no 9"}, {"ok", "no 9"}, {"ok", "ok"}} {
		wantAnswers(t, h, tenant, asked, wanted...)
	}
	for tenant, n := range []int{0, need, 0, bare, bare, need} {
		if h.Has(tenant) != n {
			t.Errorf("tenant %d has %d; want %d", tenant, h.Has(tenant), n)
		}
	}
}

// Each tenant's keys are minted with its own draw, in their order.
func TestBootHallsHaveTheirDraws(t *testing.T) {
	draws := []int{0, 1, -1, math.MaxInt, math.MinInt, 0}
	h, e := house.Boot(may(9, 9, 9, 9, 9, 9), draws)
	if e != api.OK {
		t.Fatalf("Boot: error %d", e)
	}
	for tenant, draw := range draws {
		for serial := range 3 {
			if serial == 0 {
				wantAnswers(t, h, tenant, []string{"new a B3/S23"}, "ok")
			}
			wantAnswers(t, h, tenant, []string{"lease a 1"}, "key "+keyText(serial, draw))
		}
	}
}

func TestBootKeepsNoLists(t *testing.T) {
	quotas, draws := append(make([]int, 0, 9), 8, 0, 20), append(make([]int, 0, 9), 5, 6, 7)
	c := api.Config{Room: 28, Quotas: quotas}
	h, e := house.Boot(c, draws)
	if e != api.OK {
		t.Fatalf("Boot: error %d", e)
	}
	if !slices.Equal(quotas[:9], []int{8, 0, 20, 0, 0, 0, 0, 0, 0}) || !slices.Equal(draws[:9], []int{5, 6, 7, 0, 0, 0, 0, 0, 0}) {
		t.Errorf("Boot changed its lists: %v, %v", quotas[:9], draws[:9])
	}
	for i := range 9 {
		quotas[:9][i], draws[:9][i] = 0, 0
	}
	wantAnswers(t, h, 0, []string{"new a B3/S23", "set a 0,0 1,0 2,0", "lease a 3"}, "ok", "ok", "key "+keyText(0, 5))
	wantAnswers(t, h, 1, []string{"new a B3/S23"}, "no 9")
}

func TestHousesAreApart(t *testing.T) {
	g, h := boot(t, may(50, 50)), boot(t, may(50, 50))
	ask(t, g, 0, "new a B3/S23")
	feed(t, g, 1, "clean\n", "cl")
	g.Tick()
	if l := lookAt(h); !l.same(lookAt(nil)) || h.Turn() {
		t.Errorf("another house has %v", l)
	}
	wantTick(t, h, "1 0 0")
	wantAnswers(t, h, 1, []string{"clean"}, "count 0")
}
