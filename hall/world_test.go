package hall_test

import (
	"math"
	"strings"
	"testing"

	"lifelodge/api"
)

// nth is a name for each number from 0 to 25.
func nth(i int) string { return string(rune('a' + i)) }

// full is a guest with as many universes as can be, the names of which are nth's.
func full(t *testing.T) *guest {
	t.Helper()
	g := alone(t)
	for i := range api.MaxWorlds {
		g.ok(found(nth(i), life), set(nth(i), at(i, i)))
	}
	return g
}

// P10.3: new

func TestFound(t *testing.T) {
	g := alone(t)
	for _, r := range []api.Rule{life, flood, still, {}, {Born: 510}, {Live: 511}, {Born: 2, Live: 1}} {
		name := nth(len(g.places))
		g.ok(found(name, r))
		g.holds(name, r, nil)
	}
	for _, name := range []string{"z", "zz", strings.Repeat("z", api.MaxName)} {
		g.ok(found(name, life))
		g.holds(name, life, nil)
	}
}

func wrongNames() []string {
	return []string{"", "A", "a1", "1", "a b", " a", "a ", "!a", "!0k0", "a!", "ä", "\x00", "a\x00", "`", "{",
		strings.Repeat("z", api.MaxName+1), strings.Repeat("z", 100000)}
}

func TestFoundForm(t *testing.T) {
	g := alone(t)
	g.ok(found("a", life))
	g.key("a", both)
	for _, name := range wrongNames() {
		g.no(found(name, life), api.ErrForm)
		g.no(found(name, api.Rule{Born: 1}), api.ErrForm)
	}
}

// Among the rules that are not good are those by which cells are born without neighbours.
func TestFoundKind(t *testing.T) {
	g := alone(t)
	g.ok(found("a", life))
	for _, r := range []api.Rule{
		{Born: 1}, {Born: 1, Live: 12}, {Born: 9, Live: 12}, {Born: 511, Live: 511}, {Born: 512}, {Live: 512}, {Born: -1},
		{Live: -1}, {Born: -2}, {Born: 8 | 1<<40}, {Live: math.MaxInt}, {Born: math.MinInt, Live: math.MinInt},
	} {
		g.no(found("b", r), api.ErrKind)
		g.no(found("a", r), api.ErrKind)
	}
}

func TestFoundTwice(t *testing.T) {
	g := alone(t)
	g.ok(found("a", life), set("a", rod()...))
	g.no(found("a", life), api.ErrTwice)
	g.no(found("a", flood), api.ErrTwice)
	g.holds("a", life, rod())
	g.ok(found("aa", life), found("b", flood))
	g.no(found("b", life), api.ErrTwice)
}

func TestFoundFull(t *testing.T) {
	g := full(t)
	last := nth(api.MaxWorlds)
	g.no(found(last, life), api.ErrFull)
	g.no(found("a", life), api.ErrTwice)
	g.no(found("a", api.Rule{Born: 1}), api.ErrKind)
	g.no(found(last, api.Rule{Born: 1}), api.ErrKind)
	g.no(found("A", life), api.ErrForm)
	g.ok(drop("c"), found(last, flood))
	g.no(found("c", life), api.ErrFull)
	for i := range api.MaxWorlds {
		if i != 2 {
			g.holds(nth(i), life, cells(at(i, i)))
		}
	}
	g.holds(last, flood, nil)
}

// With too little for another universe, all else that is wrong is told first.
func TestFoundQuotaComesLast(t *testing.T) {
	g := full(t)
	g.limit(0)
	g.no(found("A", life), api.ErrForm)
	g.no(found("z", api.Rule{Born: 1}), api.ErrKind)
	g.no(found("a", life), api.ErrTwice)
	g.no(found("z", life), api.ErrFull)
	h := alone(t)
	h.limit(0)
	h.no(found("A", life), api.ErrForm)
	h.no(found("z", api.Rule{Born: 1}), api.ErrKind)
	h.no(found("z", life), api.ErrQuota)
}

// P10.3: copy

func TestCopy(t *testing.T) {
	g := alone(t)
	g.ok(found("a", life), double("a", "none"))
	g.holds("none", life, nil)
	g.ok(set("a", glider()...))
	had := g.a.Count(mine)
	g.ok(double("a", "b"), double("b", "c"))
	if g.a.Count(mine) != had {
		t.Errorf("%d things became %d: the same cells are the same squares", had, g.a.Count(mine))
	}
	for _, name := range []string{"a", "b", "c"} {
		g.holds(name, life, glider())
	}
	g.holds("none", life, nil)
}

func TestCopiesGoTheirOwnWays(t *testing.T) {
	g := alone(t)
	g.ok(found("a", life), set("a", rod()...), double("a", "b"))
	g.ok(set("a", at(9, 9)))
	g.holds("b", life, rod())
	g.ok(step("b", 1))
	g.holds("a", life, append(rod(), at(9, 9)))
	g.holds("b", life, cells(at(1, -1), at(1, 0), at(1, 1)))
	g.ok(drop("a"))
	g.holds("b", life, cells(at(1, -1), at(1, 0), at(1, 1)))
	g.no(get("a"), api.ErrNone)
	g.ok(double("b", "a"), drop("b"))
	g.holds("a", life, cells(at(1, -1), at(1, 0), at(1, 1)))
}

// A copy has the first one's rule, not the request's.
func TestCopyTakesTheRule(t *testing.T) {
	g := alone(t)
	g.ok(found("a", flood), set("a", at(0, 0)))
	g.ok(api.Request{Verb: api.VerbCopy, Name: "a", Other: "b", Rule: life})
	g.ok(step("b", 1))
	g.holds("b", flood, field(-1, -1, 3, 3))
	g.holds("a", flood, cells(at(0, 0)))
}

// The keys of the first one do not open the copy, and those of the copy do not open the first one.
func TestCopyHasNoKeys(t *testing.T) {
	g := alone(t)
	g.ok(found("a", life), set("a", rod()...))
	k := g.key("a", both)
	g.ok(double(k, "b"))
	m := g.key("b", both)
	g.ok(set(k, at(5, 5)))
	g.holds("b", life, rod())
	g.ok(set(m, at(6, 6)))
	g.holds("a", life, append(rod(), at(5, 5)))
	g.ok(drop("b"))
	g.holds(k, life, append(rod(), at(5, 5)))
	g.no(get(m), api.ErrNone)
}

func TestCopyRefuses(t *testing.T) {
	g := alone(t)
	g.ok(found("a", life), set("a", rod()...), found("b", flood))
	r, w := g.key("a", read), g.key("a", write)
	g.no(double("c", "d"), api.ErrNone)
	g.no(double("!7k7", "d"), api.ErrNone)
	g.no(double(w, "d"), api.ErrRight)
	for _, from := range []string{"a", r} {
		for _, name := range wrongNames() {
			g.no(double(from, name), api.ErrForm)
		}
		g.no(double(from, r), api.ErrForm)
		g.no(double(from, "a"), api.ErrTwice)
		g.no(double(from, "b"), api.ErrTwice)
	}
	g.ok(double(r, "d"))
	g.holds("d", life, rod())
	g.holds("b", flood, nil)
}

func TestCopyFull(t *testing.T) {
	g := full(t)
	r := g.key("b", read)
	last := nth(api.MaxWorlds)
	for _, from := range []string{"a", r} {
		g.no(double(from, last), api.ErrFull)
		g.no(double(from, "c"), api.ErrTwice)
		g.no(double(from, "C"), api.ErrForm)
	}
	g.no(double(last, "a"), api.ErrNone)
	g.ok(drop("a"), double(r, last))
	g.no(double(r, "a"), api.ErrFull)
	g.holds(last, life, cells(at(1, 1)))
}

// A copy is made of what is there: whatever a tenant may have, it may copy.
func TestCopyCostsNothing(t *testing.T) {
	g := alone(t)
	g.ok(found("a", life), set("a", rod()...), step("a", 3))
	g.limit(0)
	g.ok(double("a", "b"))
	g.holds("b", life, cells(at(1, -1), at(1, 0), at(1, 1)))
}

// P10.3: drop

func TestDrop(t *testing.T) {
	g := alone(t)
	g.ok(found("a", life), set("a", rod()...), found("b", flood), set("b", at(4, 4)), found("c", still))
	g.ok(drop("b"))
	for _, q := range []api.Request{get("b"), count("b"), box("b"), set("b"), step("b", 0), drop("b"), double("b", "d"), lease("b", 1)} {
		g.no(q, api.ErrNone)
	}
	g.holds("a", life, rod())
	g.holds("c", still, nil)
	g.ok(found("b", still))
	g.holds("b", still, nil)
	g.ok(drop("a"), drop("b"), drop("c"))
	g.no(drop("a"), api.ErrNone)
	g.want(clean(), api.Answer{N: g.a.Count(mine)})
	if g.a.Count(mine) != 0 {
		t.Errorf("without universes it has %d things", g.a.Count(mine))
	}
}

// What a dropped universe was made of stays the tenant's own until it cleans.
func TestDropGivesUpNothing(t *testing.T) {
	g := alone(t)
	g.ok(found("a", life), set("a", rod()...))
	had := g.a.Count(mine)
	g.ok(drop("a"))
	if g.a.Count(mine) != had {
		t.Errorf("%d things became %d", had, g.a.Count(mine))
	}
}

func TestDropByKey(t *testing.T) {
	g := alone(t)
	g.ok(found("a", life), set("a", rod()...))
	for _, rights := range []int{read, write, both} {
		g.no(drop(g.key("a", rights)), api.ErrNone)
	}
	g.no(drop("!9k9"), api.ErrNone)
	g.holds("a", life, rod())
}

func TestDropRevokesItsKeys(t *testing.T) {
	g := alone(t)
	g.ok(found("a", life), found("b", life), found("aa", life), set("b", rod()...))
	var gone, kept []string
	for _, rights := range []int{read, write, both} {
		gone = append(gone, g.key("a", rights))
		kept = append(kept, g.key("b", rights), g.key("aa", rights))
	}
	g.ok(drop("a"), found("a", life))
	for _, k := range gone {
		for _, q := range []api.Request{get(k), count(k), box(k), set(k, at(1, 1)), step(k, 1), double(k, "c")} {
			g.no(q, api.ErrNone)
		}
	}
	for i, k := range kept {
		if i/2 != 0 {
			g.ok(step(k, 0))
		}
		if i/2 != 1 && i%2 == 0 {
			g.holds(k, life, rod())
		}
	}
	// A key that is minted later has another text, though the Serial's key is gone.
	if k := g.key("a", both); k[:3] != "!9k" {
		t.Errorf("behind nine keys: %s", k)
	}
}

// The keys of a dropped universe make room for others.
func TestDropMakesRoomForKeys(t *testing.T) {
	g := alone(t)
	g.ok(found("a", life), found("b", life))
	for i := range api.MaxKeys {
		g.key(nth(i%2), both)
	}
	g.no(lease("a", both), api.ErrFull)
	g.ok(drop("b"))
	for range api.MaxKeys / 2 {
		g.key("a", read)
	}
	g.no(lease("a", both), api.ErrFull)
}
