package hall_test

import (
	"testing"

	"lifelodge/api"
	"lifelodge/quad"
)

// P10.6

// made is how many squares patterns are made of, all together, by chapter 5's least roots.
func made(t *testing.T, patterns ...[]api.Cell) int {
	t.Helper()
	a := build(t, api.MaxRoom)
	for _, l := range patterns {
		if _, e := quad.From(a, mine, l); e != api.OK {
			t.Fatalf("From: error %d", e)
		}
	}
	return a.Live()
}

// cleans wants a clean to leave so many things and to tell how many it gave up, and a second one to find nothing.
func (g *guest) cleans(left int) {
	g.t.Helper()
	had := g.a.Count(g.tenant)
	g.want(clean(), api.Answer{N: had - left})
	if n := g.a.Count(g.tenant); n != left {
		g.t.Errorf("%d things are left; want %d", n, left)
	}
	g.want(clean(), api.Answer{})
	if n := g.a.Count(g.tenant); n != left {
		g.t.Errorf("%d things are left behind a second clean; want %d", n, left)
	}
}

func TestCleanOfNothing(t *testing.T) {
	g := alone(t)
	g.cleans(0)
	g.no(found("A", life), api.ErrForm)
	g.cleans(0)
}

func TestClean(t *testing.T) {
	g := alone(t)
	g.ok(found("a", life))
	g.cleans(2) // the empty squares of the levels 1 and 2
	g.ok(set("a", rod()...))
	g.cleans(made(t, rod()))
	g.ok(step("a", 100))
	had := g.a.Count(mine)
	g.cleans(made(t, rod()))
	if had <= made(t, rod()) {
		t.Errorf("steps made nothing that can be given up")
	}
	g.holds("a", life, rod())
	g.ok(found("b", flood), set("b", glider()...), double("a", "c"), step("c", 1), found("d", still))
	g.cleans(made(t, rod(), glider(), cells(at(1, -1), at(1, 0), at(1, 1)), nil))
	g.holds("a", life, rod())
	g.holds("b", flood, glider())
	g.holds("c", life, cells(at(1, -1), at(1, 0), at(1, 1)))
	g.holds("d", still, nil)
	g.ok(drop("b"), drop("a"))
	g.cleans(made(t, cells(at(1, -1), at(1, 0), at(1, 1)), nil))
	g.holds("c", life, cells(at(1, -1), at(1, 0), at(1, 1)))
	g.ok(drop("c"), drop("d"))
	g.cleans(0)
}

// What clean gave up can be made again, and universes go on from where they were.
func TestGoOnBehindClean(t *testing.T) {
	g, h := alone(t), alone(t)
	l := append(glider(), at(20, 20), at(21, 20), at(22, 20))
	for _, x := range []*guest{g, h} {
		x.ok(found("a", life), set("a", l...))
	}
	for i := range 12 {
		for _, x := range []*guest{g, h} {
			x.ok(step("a", i))
		}
		g.h.Do(clean())
		want := h.h.Do(get("a"))
		g.want(get("a"), want)
	}
}

func TestCleanKeepsKeys(t *testing.T) {
	g := alone(t)
	g.ok(found("a", life), set("a", rod()...), found("b", life))
	k, m := g.key("a", both), g.key("b", read)
	g.ok(step(k, 2))
	g.cleans(made(t, rod(), nil))
	g.holds(k, life, rod())
	g.holds(m, life, nil)
	g.ok(step(k, 1))
}

// What others have is not touched, and neither counted.
func TestCleanLeavesOthersAlone(t *testing.T) {
	a := build(t, api.MaxRoom)
	g, theirs := enter(t, a, mine, 0), enter(t, a, other, 0)
	for _, x := range []*guest{g, theirs} {
		x.ok(found("a", life), set("a", glider()...), step("a", 40), step("a", 7))
	}
	had := theirs.look()
	g.ok(drop("a"))
	g.cleans(0)
	if now := theirs.look(); !had.same(now) {
		t.Errorf("another's clean left %v; there was %v", now, had)
	}
	a.Sweep()
	if now := theirs.look(); !had.same(now) {
		t.Errorf("a sweep behind another's clean left %v; there was %v", now, had)
	}
}

// A refusal behind a clean takes nothing away that the clean kept.
func TestRefusalBehindClean(t *testing.T) {
	g := alone(t)
	g.ok(found("a", life), set("a", glider()...), step("a", 9))
	g.h.Do(clean())
	g.limit(g.a.Count(mine))
	g.no(step("a", 5), api.ErrQuota)
	g.no(set("a", at(500, 500)), api.ErrQuota)
	g.ok(found("b", life)) // what it is made of is there
	g.cleans(g.a.Count(mine))
}
