package hall_test

import (
	"math/rand"
	"testing"

	"lifelodge/api"
	"lifelodge/arena"
	"lifelodge/hall"
)

// P10.7

// script is requests of which all can be done.
func script() []api.Request {
	return []api.Request{
		found("a", life), lease("a", both), set("a", rod()...), get("a"), step("a", 1), box("a"), double("a", "b"),
		set("b", at(5, 5), at(-6, 2)), step("a", 6), lease("b", read), count("b"), found("c", flood), set("c", at(40, 0)),
		step("c", 3), get("c"), step("b", 2), found("d", still), set("d", at(1, 0), at(900, 900)), step("d", 0), step("d", 9),
		lease("d", both), drop("b"), get("a"), set("a", field(-3, -3, 2, 2)...), step("a", 8), count("c"), get("d"),
	}
}

func mayBeRefused(verb int) bool {
	return verb == api.VerbNew || verb == api.VerbSet || verb == api.VerbStep
}

// With any quota each request is answered as if there were none, or told ErrQuota, and then all is as it was. Those
// that need nothing new are never told so.
func TestEachQuota(t *testing.T) {
	all := alone(t)
	for _, q := range script() {
		if x := all.h.Do(q); x.Code != api.OK {
			t.Fatalf("%v: error %d", q, x.Code)
		}
	}
	most := all.a.Count(mine)
	refused := map[int]int{}
	for may := 0; may <= most; may++ {
		g := alone(t)
		g.limit(may)
		m := &model{}
		for _, q := range script() {
			had := g.look()
			x := g.h.Do(q)
			g.remember(q, x)
			if n := g.a.Count(mine); n > may {
				t.Fatalf("may have %d, %v: it has %d", may, q, n)
			}
			if x.Code != api.ErrQuota {
				if wanted := m.do(q); !sameAnswer(x, wanted) {
					t.Fatalf("may have %d, %s: %s; want %s", may, short(q), short(x), short(wanted))
				}
				continue
			}
			refused[q.Verb]++
			g.places = g.places[:len(had.told)/4]
			if now := g.look(); !sameAnswer(x, refusal(api.ErrQuota)) || !had.same(now) {
				t.Fatalf("may have %d, %v: %v, left %v; there was %v", may, q, x, now, had)
			}
			if !mayBeRefused(q.Verb) || may == most {
				t.Fatalf("may have %d, %v: told ErrQuota", may, q)
			}
		}
		for _, w := range m.worlds {
			g.holds(w.name, w.rule, w.l)
		}
	}
	for _, verb := range []int{api.VerbNew, api.VerbSet, api.VerbStep} {
		if refused[verb] == 0 {
			t.Errorf("the verb %d was never told ErrQuota", verb)
		}
	}
}

// needs wants a request to be told ErrQuota with each quota that is less than what the tenant has then, and to be done
// with that one; the quota is not told of, when it was enough.
func needs(t *testing.T, ahead []api.Request, q api.Request) {
	t.Helper()
	rich := alone(t)
	rich.ok(ahead...)
	had := rich.a.Count(mine)
	rich.ok(q)
	need := rich.a.Count(mine)
	if need == had {
		t.Errorf("%v makes nothing", q)
	}
	for may := had; may < need; may++ {
		g := alone(t)
		g.ok(ahead...)
		g.limit(may)
		g.no(q, api.ErrQuota)
		g.no(q, api.ErrQuota)
		g.limit(need)
		g.ok(q)
		if g.a.Count(mine) != need {
			t.Errorf("%v behind a refusal: it has %d things; want %d", q, g.a.Count(mine), need)
		}
	}
}

func TestTooLittle(t *testing.T) {
	needs(t, nil, found("a", life))
	for _, s := range []struct {
		ahead []api.Request
		q     api.Request
	}{
		{[]api.Request{found("a", life)}, set("a", rod()...)},
		{[]api.Request{found("a", life)}, set("a", at(1000, -1000), at(3, 3))},
		{[]api.Request{found("a", life)}, step("a", 1)},
		{[]api.Request{found("a", life), set("a", rod()...)}, step("a", 1)},
		{[]api.Request{found("a", life), set("a", rod()...)}, step("a", 64)},
		{[]api.Request{found("a", life), set("a", glider()...), step("a", 3)}, step("a", 4)},
		{[]api.Request{found("a", life), set("a", glider()...), step("a", 3)}, set("a", field(10, 10, 4, 4)...)},
		{[]api.Request{found("a", flood), set("a", at(0, 0)), double("a", "b"), step("b", 2)}, step("a", 5)},
	} {
		needs(t, s.ahead, s.q)
	}
}

// A tenant that may have 30 things is told so where it would need more.
func TestThirtyThings(t *testing.T) {
	g := alone(t)
	g.limit(30)
	g.ok(found("a", life), set("a", rod()...))
	g.no(set("a", at(1<<30, 0)), api.ErrQuota)
	g.no(step("a", 1000000), api.ErrQuota)
	g.holds("a", life, rod())
	g.want(clean(), api.Answer{})
}

// Cleaning makes room for what was refused.
func TestCleanMakesRoom(t *testing.T) {
	g := alone(t)
	g.ok(found("a", life), set("a", rod()...), step("a", 1))
	g.limit(g.a.Count(mine))
	g.ok(drop("a"), found("b", flood))
	g.no(set("b", at(1, 1), at(-1, 0)), api.ErrQuota)
	g.cleans(2)
	g.ok(set("b", at(1, 1), at(-1, 0)))
	g.holds("b", flood, cells(at(1, 1), at(-1, 0)))
}

// In an arena in which others have all there is, a tenant is told so, and nothing changes.
func TestFullArena(t *testing.T) {
	a := build(t, 20)
	g, theirs := enter(t, a, mine, 0), enter(t, a, other, 0)
	g.ok(found("a", life), set("a", at(-1, 0)))
	theirs.ok(found("a", life))
	for i := 0; theirs.h.Do(set("a", at(i, i*i))).Code == api.OK; i++ {
	}
	g.no(set("a", at(9, 9)), api.ErrFull)
	g.no(step("a", 1), api.ErrFull)
	g.holds("a", life, cells(at(-1, 0)))
	g.ok(found("b", life))
	theirs.no(set("a", at(-100, -100)), api.ErrFull)
}

// Tenants beside each other.

// tell is what a tenant is told of its requests, and what it has behind each.
type tell struct {
	x      api.Answer
	things int
}

func ask(h *hall.Hall, a *arena.Arena, tenant int, q api.Request) tell {
	return tell{h.Do(q), a.Count(tenant)}
}

func (x tell) same(y tell) bool { return x.things == y.things && sameAnswer(x.x, y.x) }

// asks is a tenant's requests: they hang on nothing that it is told.
func asks(seed, n int) []api.Request {
	r := rand.New(rand.NewSource(int64(seed)))
	m := &model{}
	l := []api.Request{found("a", life), set("a", glider()...)}
	for _, q := range l {
		m.do(q)
	}
	for range n {
		q := m.ask(r)
		m.do(q)
		l = append(l, q)
	}
	return l
}

// tellsAlone is what a tenant is told in an arena in which there is nobody else.
func tellsAlone(t *testing.T, tenant, may int, l []api.Request) []tell {
	t.Helper()
	a := build(t, api.MaxRoom)
	g := enter(t, a, tenant, 0)
	g.limit(may)
	var told []tell
	for _, q := range l {
		told = append(told, ask(g.h, a, tenant, q))
	}
	return told
}

// Three tenants, who ask much the same at times, have just enough room together: each is told what it is told alone.
func TestOthersAreNotToBeSeen(t *testing.T) {
	tenants := []int{0, mine, other}
	codes := map[api.Errno]int{}
	for seed := range 40 {
		r := rand.New(rand.NewSource(int64(seed)))
		var wanted [3][]tell
		var lists [3][]api.Request
		var mays [3]int
		room := 0
		for i, tenant := range tenants {
			mays[i] = pick(r, 20, 100, 300, 1000, 5000)
			room += mays[i]
			lists[i] = asks(seed*2+r.Intn(2), 80)
			wanted[i] = tellsAlone(t, tenant, mays[i], lists[i])
		}
		a := build(t, room)
		var halls [3]*hall.Hall
		for i, tenant := range tenants {
			g := enter(t, a, tenant, 0)
			g.limit(mays[i])
			halls[i] = g.h
		}
		var next [3]int
		for range 3 * len(lists[0]) {
			i := r.Intn(3)
			if next[i] == len(lists[i]) {
				continue
			}
			q, want := lists[i][next[i]], wanted[i][next[i]]
			next[i]++
			if got := ask(halls[i], a, tenants[i], q); !got.same(want) {
				t.Fatalf("seed %d, tenant %d, %v: %v; alone it is told %v", seed, tenants[i], q, got, want)
			}
			codes[want.x.Code]++
		}
	}
	if codes[api.ErrQuota] < 100 || codes[api.OK] < 100 || codes[api.ErrFull] > codes[api.OK]/4 {
		t.Errorf("told %v: too little was tried", codes)
	}
}

// Two tenants with the same requests are told the same, and pay the same, whoever comes first.
func TestTwoTenantsWithTheSameRequests(t *testing.T) {
	for _, may := range []int{3, 8, 40, 60, 100, 200, 10000} {
		a := build(t, 2*may)
		g, theirs := enter(t, a, mine, 0), enter(t, a, other, 0)
		g.limit(may)
		theirs.limit(may)
		for _, q := range script() {
			first, second := ask(g.h, a, mine, q), ask(theirs.h, a, other, q)
			if !first.same(second) {
				t.Fatalf("may have %d, %v: %v and %v", may, q, first, second)
			}
		}
		if may == 10000 && a.Live() != a.Count(mine) {
			t.Errorf("%d things, of which each has %d: they should be the same", a.Live(), a.Count(mine))
		}
	}
}
