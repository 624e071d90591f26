package hall_test

import (
	"math"
	"testing"

	"lifelodge/api"
	"lifelodge/keys"
)

// P10.5

func TestLeaseTexts(t *testing.T) {
	g := alone(t)
	g.ok(found("a", life), found("b", life))
	// By hand, with a draw of 0.
	g.want(lease("a", read), api.Answer{Key: "!0k0"})
	g.want(lease("b", write), api.Answer{Key: "!1ke220a8397b1dcdaf"})
}

// Each text is what Mint makes with the hall's draw, and the Serial goes on over all universes.
func TestLeaseIsMinted(t *testing.T) {
	for _, draw := range []int{0, 1, -1, 77, 1 << 40, math.MinInt, math.MaxInt} {
		g := enter(t, build(t, 1000), mine, draw)
		g.ok(found("a", life), found("b", life))
		for i := range api.MaxKeys {
			_, text, e := keys.Mint(api.Table{Serial: i}, "a", both, draw)
			if e != api.OK {
				t.Fatalf("Mint: error %d", e)
			}
			g.want(lease(nth(i%2), 1+i%3), api.Answer{Key: text})
		}
	}
}

func TestLeaseRights(t *testing.T) {
	for _, rights := range []int{0, 4, 5, 7, -1, -3, 1 << 32, 1<<32 + 1, math.MinInt, math.MaxInt} {
		g := alone(t)
		g.ok(found("a", life))
		g.no(lease("a", rights), api.ErrRange)
		// The Serial is still the first.
		g.want(lease("a", read), api.Answer{Key: "!0k0"})
	}
	for rights := read; rights <= both; rights++ {
		g := alone(t)
		g.ok(found("a", life))
		k := g.key("a", rights)
		mayRead, mayWrite := rights&read != 0, rights&write != 0
		if x := g.h.Do(get(k)); (x.Code == api.OK) != mayRead || !mayRead && x.Code != api.ErrRight {
			t.Errorf("get by a key with %d: error %d", rights, x.Code)
		}
		if x := g.h.Do(set(k, at(0, 0))); (x.Code == api.OK) != mayWrite || !mayWrite && x.Code != api.ErrRight {
			t.Errorf("set by a key with %d: error %d", rights, x.Code)
		}
	}
}

func TestLeaseFull(t *testing.T) {
	g := alone(t)
	g.ok(found("a", life), found("b", life))
	for range api.MaxKeys {
		g.key("a", read)
	}
	for _, name := range []string{"a", "b"} {
		for rights := read; rights <= both; rights++ {
			g.no(lease(name, rights), api.ErrFull)
		}
		g.no(lease(name, 0), api.ErrRange)
		g.no(lease(name, 4), api.ErrRange)
	}
	g.no(lease("c", read), api.ErrNone)
	g.no(lease("!0k0", read), api.ErrRight)
}

// A key's text is refused ahead of all else, whether or not it opens something; what only looks like one is no name.
func TestLeaseByKey(t *testing.T) {
	g := alone(t)
	g.ok(found("a", life))
	k := g.key("a", both)
	for _, rights := range []int{0, 1, 2, 3, 4, -1} {
		for _, p := range []string{k, "!0k1", "!a", "!abc", "!0", "!0123456789012345678901234567890123456789"} {
			g.no(lease(p, rights), api.ErrRight)
		}
		for _, p := range []string{"", "!", "b", "aa", "A", "!A", k + " ", "!01234567890123456789012345678901234567890", "a!"} {
			g.no(lease(p, rights), api.ErrNone)
		}
	}
}

func TestLeaseCostsNothing(t *testing.T) {
	g := alone(t)
	g.ok(found("a", life), set("a", rod()...))
	had := g.a.Count(mine)
	g.limit(0)
	k := g.key("a", both)
	g.holds(k, life, rod())
	if g.a.Count(mine) != had {
		t.Errorf("%d things became %d", had, g.a.Count(mine))
	}
}
