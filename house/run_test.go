package house_test

import (
	"math"
	"slices"
	"strconv"
	"strings"
	"testing"
	"unsafe"

	"lifelodge/api"
	"lifelodge/frame"
	"lifelodge/house"
)

func fed(tenant int, s string) api.Deed {
	return api.Deed{Kind: api.DeedFeed, Tenant: tenant, Bytes: s}
}
func turned(n int) api.Deed { return api.Deed{Kind: api.DeedTurn, N: n} }
func ticked() api.Deed      { return api.Deed{Kind: api.DeedTick} }

// run is what each tenant is told; all tenants have the draw 0.
func run(t *testing.T, c api.Config, l ...api.Deed) (told [][]string) {
	t.Helper()
	outs, e := house.Run(c, make([]int, len(c.Quotas)), l)
	if e != api.OK || len(outs) != len(c.Quotas) {
		t.Fatalf("Run: %d texts, error %d; want %d", len(outs), e, len(c.Quotas))
	}
	for _, s := range outs {
		told = append(told, unwrap(t, s))
	}
	return told
}

func wantRun(t *testing.T, c api.Config, l []api.Deed, wanted ...[]string) {
	t.Helper()
	if told := run(t, c, l...); !slices.EqualFunc(told, wanted, slices.Equal) {
		t.Errorf("Run told %q; want %q", told, wanted)
	}
}

func refuseRun(t *testing.T, c api.Config, draws []int, l []api.Deed, wanted api.Errno) {
	t.Helper()
	if outs, e := house.Run(c, draws, l); len(outs) > 0 || e != wanted {
		t.Errorf("Run of %d deeds: %q, error %d; want error %d", len(l), outs, e, wanted)
	}
}

// P12.5

func TestRunNothing(t *testing.T) {
	for _, n := range []int{1, 2, api.Tenants} {
		for _, l := range [][]api.Deed{nil, {}, {ticked()}, {turned(5)}, {ticked(), turned(1000), fed(0, "clean"), turned(1)}, {fed(n-1, "clean\n")}} {
			outs, e := house.Run(may(make([]int, n)...), make([]int, n), l)
			if e != api.OK || !slices.Equal(outs, make([]string, n)) {
				t.Errorf("Run of %v: %q, error %d", l, outs, e)
			}
		}
	}
}

func TestRunTellsEachTenant(t *testing.T) {
	wantRun(t, may(40, 40, 40), []api.Deed{
		fed(2, "new a B3/S23\nset a 0,0 1,0"), ticked(), turned(1), fed(0, "clean\n"), fed(2, " 2,0\ncount a\n"), turned(7), fed(1, "what\nwhat\n"), turned(1),
	}, []string{"count 0"}, []string{"no 4"}, []string{"ok", "ok", "count 3"})
}

func TestRunIsInOrder(t *testing.T) {
	l := []api.Deed{fed(0, "new a B3/S23\n"), turned(1), fed(0, "lease a 1\ndrop a\nlease a 1\n"), turned(1), turned(1), turned(1)}
	key := "key " + keyText(0, 0)
	wantRun(t, may(40), l, []string{"ok", key, "ok", "no 6"})
	wantRun(t, may(40), l[:5], []string{"ok", key, "ok"})
	wantRun(t, may(40), l[:1], []string{})
	l[0], l[2] = l[2], l[0]
	wantRun(t, may(40), l, []string{"no 6", "no 6", "no 6", "ok"})
	outs, e := house.Run(may(9, 9), []int{7, 8}, []api.Deed{fed(0, "new a B3/S23\nlease a 1\n"), fed(1, "new a B3/S23\nlease a 1\n"), turned(4)})
	if e != api.OK || outs[0] != frame.Wrap("ok")+frame.Wrap("key "+keyText(0, 7)) || outs[1] != frame.Wrap("ok")+frame.Wrap("key "+keyText(0, 8)) {
		t.Errorf("Run with draws: %q, error %d", outs, e)
	}
}

func TestRunTurns(t *testing.T) {
	for _, s := range []struct{ n, wanted int }{
		{0, 0}, {-1, 0}, {math.MinInt, 0}, {1, 1}, {2, 2}, {9, 9}, {999, 999}, {1000, 1000}, {1001, 1000}, {1999, 1000}, {1 << 32, 1000}, {math.MaxInt, 1000},
	} {
		lines := []api.Deed{fed(0, strings.Repeat("\n", 1500)), turned(s.n)}
		if told := run(t, may(9, 9), lines...); len(told[0]) != s.wanted {
			t.Errorf("%d turns: %d answers; want %d", s.n, len(told[0]), s.wanted)
		}
		// All tenants' turns are one number.
		lines = []api.Deed{fed(0, strings.Repeat("\n", 700)), fed(1, strings.Repeat("\n", 800)), turned(s.n)}
		if told := run(t, may(9, 9), lines...); len(told[0])+len(told[1]) != s.wanted || len(told[0]) < len(told[1]) && s.wanted < 1400 {
			t.Errorf("%d turns: %d and %d answers; want %d", s.n, len(told[0]), len(told[1]), s.wanted)
		}
		// With fewer lines there are fewer turns.
		lines = []api.Deed{fed(0, strings.Repeat("\n", 3)), turned(s.n), fed(1, strings.Repeat("\n", 2)), turned(s.n)}
		if told := run(t, may(9, 9), lines...); len(told[0])+len(told[1]) != min(2*s.wanted, 5) {
			t.Errorf("%d turns twice: %d and %d answers", s.n, len(told[0]), len(told[1]))
		}
	}
	if told := run(t, may(9, 9), fed(0, strings.Repeat("\n", 3000)), turned(5000), turned(-5), turned(1000), ticked(), turned(999)); len(told[0]) != 2999 {
		t.Errorf("%d answers; want 2999", len(told[0]))
	}
}

// Fields that a deed does not need are not looked at.
func TestRunOtherFields(t *testing.T) {
	long := strings.Repeat("x", api.MaxFeed+1)
	for _, tenant := range append(farOff(), 0, 1) {
		wantRun(t, may(9, 9), []api.Deed{
			{Kind: api.DeedFeed, Tenant: 1, N: tenant, Bytes: "clean\n"}, {Kind: api.DeedTick, Tenant: tenant, N: tenant, Bytes: long},
			{Kind: api.DeedTurn, Tenant: tenant, N: 3, Bytes: long},
		}, []string{}, []string{"count 0"})
	}
}

func TestRunMaxDeeds(t *testing.T) {
	var l []api.Deed
	for range api.MaxDeeds / 2 {
		l = append(l, fed(0, "\n"), turned(1))
	}
	if told := run(t, may(9), l...); len(told[0]) != api.MaxDeeds/2 {
		t.Errorf("%d answers", len(told[0]))
	}
	for _, n := range []int{1, 2, api.MaxDeeds, 100000} {
		for _, more := range []api.Deed{ticked(), {Kind: 9}, fed(7, "")} {
			refuseRun(t, may(9), []int{0}, append(slices.Repeat([]api.Deed{more}, n), l...), api.ErrFull)
			refuseRun(t, may(9), []int{0}, append(slices.Clone(l), slices.Repeat([]api.Deed{more}, n)...), api.ErrFull)
		}
	}
}

// Boot's errors are told ahead of too many deeds, and those ahead of what is wrong with one.
func TestRunTellsBootsErrorsFirst(t *testing.T) {
	for _, l := range [][]api.Deed{nil, {ticked()}, {{Kind: 9}}, {fed(0, "clean\n"), turned(1)}, make([]api.Deed, api.MaxDeeds+1)} {
		refuseRun(t, api.Config{Room: 10, Quotas: []int{11}}, []int{0}, l, api.ErrRange)
		refuseRun(t, api.Config{Room: -1, Quotas: []int{0}}, []int{0}, l, api.ErrRange)
		refuseRun(t, api.Config{Room: 10}, nil, l, api.ErrRange)
		refuseRun(t, api.Config{Room: 10, Quotas: []int{5, 6}}, []int{0, 0}, l, api.ErrFull)
		refuseRun(t, api.Config{Room: 10, Quotas: []int{5, 6}}, nil, l, api.ErrFull)
		refuseRun(t, api.Config{Room: 10, Quotas: []int{5, 5}}, []int{0}, l, api.ErrRange)
		refuseRun(t, api.Config{Room: 10, Quotas: []int{5, 5}}, []int{0, 0, 0}, l, api.ErrRange)
	}
}

func TestRunKinds(t *testing.T) {
	for _, kind := range []int{0, -1, 4, 5, 9, -2, -3, 1<<32 + 1, 257, 258, 259, math.MaxInt, math.MinInt} {
		d := api.Deed{Kind: kind, Tenant: 1, N: 1, Bytes: "clean\n"}
		refuseRun(t, may(9, 9), []int{0, 0}, []api.Deed{d}, api.ErrKind)
		refuseRun(t, may(9, 9), []int{0, 0}, []api.Deed{fed(0, "clean\n"), turned(1), ticked(), d}, api.ErrKind)
		refuseRun(t, may(9, 9), []int{0, 0}, []api.Deed{d, fed(0, "clean\n"), turned(1)}, api.ErrKind)
	}
}

func TestRunTellsTheFirstErrorOnTheWay(t *testing.T) {
	long := strings.Repeat("\n", api.MaxFeed+1)
	wrong := map[api.Errno]api.Deed{api.ErrKind: {Kind: 9}, api.ErrRange: fed(2, ""), api.ErrLong: fed(1, long)}
	good := []api.Deed{fed(0, "clean\n"), turned(1), ticked()}
	for e, d := range wrong {
		for other, x := range wrong {
			refuseRun(t, may(9, 9), []int{0, 0}, []api.Deed{d, x}, e)
			l := append(append(slices.Clone(good), x), good...)
			refuseRun(t, may(9, 9), []int{0, 0}, append(l, d), other)
		}
	}
	for _, tenant := range append(farOff(), 2) {
		refuseRun(t, may(9, 9), []int{0, 0}, append(slices.Clone(good), fed(tenant, long)), api.ErrRange)
	}
}

// A refused request is an answer: the run goes on.
func TestRunGoesOnBehindRefusals(t *testing.T) {
	wantRun(t, may(9), []api.Deed{fed(0, "what\nget a\n\x00\nnew a B3/S23\nstep a 999\ncount a\n"), turned(6)},
		[]string{"no 4", "no 6", "no 1", "ok", "no 9", "count 0"})
}

func TestRunKeepsToItsLists(t *testing.T) {
	quotas, draws := append(make([]int, 0, 5), 40, 40), append(make([]int, 0, 5), 1, 2)
	l := append(make([]api.Deed, 0, 9), fed(0, "new a B3/S23\nlease a 1\n"), turned(2), ticked())
	spare := slices.Clone(l[:9])
	outs, e := house.Run(api.Config{Room: 80, Quotas: quotas}, draws, l)
	if e != api.OK || !slices.Equal(l[:9], spare) || !slices.Equal(quotas[:5], []int{40, 40, 0, 0, 0}) || !slices.Equal(draws[:5], []int{1, 2, 0, 0, 0}) {
		t.Errorf("Run changed %v, %v, %v", quotas, draws, l)
	}
	again, _ := house.Run(api.Config{Room: 80, Quotas: quotas}, draws, l)
	if !slices.Equal(outs, again) {
		t.Errorf("a second Run tells %q; the first one told %q", again, outs)
	}
	if unsafe.SliceData(outs) == unsafe.SliceData(again) {
		t.Errorf("two answers are one list")
	}
}

// The examples of the whole.

func TestExampleRod(t *testing.T) {
	wantRun(t, may(1000), []api.Deed{fed(0, "new a B3/S23\nset a 0,0 1,0 2,0\nstep a 1\nbox a\n"), turned(4)},
		[]string{"ok", "ok", "ok", "box 1 -1 1 1"})
}

func TestExampleTheSamePattern(t *testing.T) {
	lines := []string{"new a B3/S23", "set a 0,0 1,0 2,0 100,50 -7,-9"}
	one, two := boot(t, may(500)), boot(t, may(500, 500))
	ask(t, one, 0, lines...)
	ask(t, two, 0, lines...)
	ask(t, two, 1, lines...)
	wantThings(t, two, one.Live(), one.Has(0), one.Has(0))
	if one.Has(0) != one.Live() {
		t.Errorf("one has %d of %d", one.Has(0), one.Live())
	}
}

func TestExampleGlider(t *testing.T) {
	wantRun(t, may(20000), []api.Deed{fed(0, "new a B3/S23\nset a 1,0 2,1 0,2 1,2 2,2\nstep a 4000000\nbox a\nget a\n"), turned(5)},
		[]string{"ok", "ok", "ok", "box 1000000 1000000 1000002 1000002", "at 1000000 1000000\nx = 3, y = 3, rule = B3/S23\nbo$2bo$3o!\n"})
}

// A tenant that may have 30 things is told so where it would need more, whatever the others do.
func TestExampleThirtyThings(t *testing.T) {
	lines := "new a B3/S23\nset a 0,0 1,0 2,0\nstep a 1000000\nbox a\nset a 1000000,0\nstep a 0\nclean\n"
	wanted := []string{"ok", "ok", "no 9", "box 0 0 2 0", "no 9", "ok", "count 0"}
	for _, others := range []string{"", "new a B3/S23\n", lines, lines + "step a 1000\n", strings.Repeat("clean\n", 50)} {
		for _, quota := range []int{0, 10, 30, 5000} {
			told := run(t, may(quota, 30, quota), fed(0, others), turned(3), fed(1, lines), fed(2, others), turned(1000))
			if !slices.Equal(told[1], wanted) {
				t.Errorf("others that may have %s and say %q: told %q; want %q", strconv.Itoa(quota), others, told[1], wanted)
			}
		}
	}
}
