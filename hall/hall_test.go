package hall_test

import (
	"fmt"
	"math"
	"slices"
	"testing"

	"lifelodge/api"
	"lifelodge/arena"
	"lifelodge/hall"
)

const (
	mine  = 7
	other = api.Tenants - 1
	read  = api.RightRead
	write = api.RightWrite
	both  = read | write
	edge  = api.MaxCoord - 1
)

var (
	life  = api.Rule{Born: 8, Live: 12}
	flood = api.Rule{Born: 0b111111110, Live: 0b111111111}
	still = api.Rule{Born: 0, Live: 0b111111111}
)

func at(x, y int) api.Cell { return api.Cell{X: x, Y: y} }

func cells(l ...api.Cell) []api.Cell { return l }

func rod() []api.Cell { return cells(at(0, 0), at(1, 0), at(2, 0)) }

func glider() []api.Cell { return cells(at(1, -2), at(2, -1), at(0, 0), at(1, 0), at(2, 0)) }

// field is all cells from x, y on, so many to the east and to the south.
func field(x, y, wide, high int) []api.Cell {
	var l []api.Cell
	for dy := range high {
		for dx := range wide {
			l = append(l, at(x+dx, y+dy))
		}
	}
	return l
}

// Requests.

func found(name string, r api.Rule) api.Request {
	return api.Request{Verb: api.VerbNew, Name: name, Rule: r}
}
func set(name string, l ...api.Cell) api.Request {
	return api.Request{Verb: api.VerbSet, Name: name, Cells: l}
}
func step(name string, n int) api.Request {
	return api.Request{Verb: api.VerbStep, Name: name, N: n}
}
func get(name string) api.Request   { return api.Request{Verb: api.VerbGet, Name: name} }
func count(name string) api.Request { return api.Request{Verb: api.VerbCount, Name: name} }
func box(name string) api.Request   { return api.Request{Verb: api.VerbBox, Name: name} }
func drop(name string) api.Request  { return api.Request{Verb: api.VerbDrop, Name: name} }
func double(name, to string) api.Request {
	return api.Request{Verb: api.VerbCopy, Name: name, Other: to}
}
func lease(name string, rights int) api.Request {
	return api.Request{Verb: api.VerbLease, Name: name, N: rights}
}
func clean() api.Request { return api.Request{Verb: api.VerbClean} }

// guest asks a hall, and remembers of which names and keys it heard, to look after them.
type guest struct {
	t      *testing.T
	a      *arena.Arena
	h      *hall.Hall
	tenant int
	places []string
}

func build(t *testing.T, room int) *arena.Arena {
	t.Helper()
	a, e := arena.New(room)
	if e != api.OK {
		t.Fatalf("arena.New(%d): error %d", room, e)
	}
	return a
}

func enter(t *testing.T, a *arena.Arena, tenant, draw int) *guest {
	t.Helper()
	h, e := hall.New(a, tenant, draw)
	if e != api.OK || h == nil {
		t.Fatalf("New(%d, %d): error %d", tenant, draw, e)
	}
	return &guest{t: t, a: a, h: h, tenant: tenant}
}

// alone is a guest in an arena of its own.
func alone(t *testing.T) *guest {
	t.Helper()
	return enter(t, build(t, api.MaxRoom), mine, 0)
}

func (g *guest) limit(n int) {
	g.t.Helper()
	if e := g.a.Limit(g.tenant, n); e != api.OK {
		g.t.Fatalf("Limit(%d): error %d", n, e)
	}
}

func (g *guest) remember(q api.Request, x api.Answer) {
	for _, s := range []string{q.Name, q.Other, x.Key} {
		if s != "" && !slices.Contains(g.places, s) {
			g.places = append(g.places, s)
		}
	}
}

func sameAnswer(x, y api.Answer) bool {
	return x.Code == y.Code && x.N == y.N && x.Box == y.Box && x.Rule == y.Rule && x.Key == y.Key &&
		slices.Equal(x.Cells, y.Cells)
}

// short is the beginning of what is told of a value: lists of cells may be long.
func short(v any) string {
	s := fmt.Sprintf("%+v", v)
	return s[:min(len(s), 300)]
}

// want wants an answer, all of it.
func (g *guest) want(q api.Request, wanted api.Answer) {
	g.t.Helper()
	x := g.h.Do(q)
	g.remember(q, x)
	if !sameAnswer(x, wanted) {
		g.t.Errorf("%s: %s; want %s", short(q), short(x), short(wanted))
	}
}

// ok wants requests to be done, and nothing to be told of them.
func (g *guest) ok(l ...api.Request) {
	g.t.Helper()
	for _, q := range l {
		g.want(q, api.Answer{})
	}
}

// key leases a universe.
func (g *guest) key(name string, rights int) string {
	g.t.Helper()
	x := g.h.Do(lease(name, rights))
	g.remember(lease(name, rights), x)
	if x.Key == "" || !sameAnswer(x, api.Answer{Key: x.Key}) {
		g.t.Fatalf("lease of %s with %d: %v", name, rights, x)
	}
	return x.Key
}

// no wants a request to be refused with an error alone, and everything to be as it was.
func (g *guest) no(q api.Request, e api.Errno) {
	g.t.Helper()
	g.remember(q, api.Answer{})
	had := g.look()
	x := g.h.Do(q)
	if !sameAnswer(x, api.Answer{Code: e}) {
		g.t.Errorf("%s: %s; want error %d alone", short(q), short(x), e)
	}
	if now := g.look(); !had.same(now) {
		g.t.Errorf("%s, refused with %d, left %s; there was %s", short(q), x.Code, short(now), short(had))
	}
}

// sight is all that can be seen of a tenant.
type sight struct {
	things  int
	squares []int
	told    []api.Answer
}

// look asks each place by each verb that changes nothing: step by 0, too, which only keys with the right to write may.
func (g *guest) look() sight {
	s := sight{things: g.a.Count(g.tenant)}
	for _, q := range g.a.Squares() {
		if q.Mask>>g.tenant&1 == 1 {
			s.squares = append(s.squares, q.Id)
		}
	}
	for _, p := range g.places {
		for _, q := range []api.Request{get(p), count(p), box(p), step(p, 0)} {
			s.told = append(s.told, g.h.Do(q))
		}
	}
	if g.a.Count(g.tenant) != s.things {
		g.t.Errorf("looking at %v made %d things %d", g.places, s.things, g.a.Count(g.tenant))
	}
	return s
}

func (s sight) same(with sight) bool {
	return s.things == with.things && slices.Equal(s.squares, with.squares) &&
		slices.EqualFunc(s.told, with.told, sameAnswer)
}

// holds wants a universe to have a rule and cells, by every verb that tells of them.
func (g *guest) holds(name string, r api.Rule, l []api.Cell) {
	g.t.Helper()
	l = slowTidy(l)
	g.want(get(name), api.Answer{N: len(l), Rule: r, Cells: l})
	g.want(count(name), api.Answer{N: len(l), Rule: r})
	b, some := slowBox(l)
	if !some {
		g.want(box(name), api.Answer{Rule: r})
		return
	}
	g.want(box(name), api.Answer{N: 1, Rule: r, Box: b})
}

// P10.1

func TestNewTenants(t *testing.T) {
	a := build(t, 100)
	for _, tenant := range []int{0, 1, 31, 32, 62, api.Tenants - 1} {
		for _, draw := range []int{0, 1, -1, math.MinInt, math.MaxInt} {
			enter(t, a, tenant, draw)
		}
	}
	for _, tenant := range []int{-1, api.Tenants, -2, 65, 1 << 32, math.MinInt, math.MaxInt} {
		for _, in := range []*arena.Arena{a, nil} {
			if h, e := hall.New(in, tenant, 0); h != nil || e != api.ErrRange {
				t.Errorf("New of tenant %d: a hall: %v, error %d; want error %d", tenant, h != nil, e, api.ErrRange)
			}
		}
	}
	for _, tenant := range []int{0, 5, api.Tenants - 1} {
		if h, e := hall.New(nil, tenant, 0); h != nil || e != api.ErrState {
			t.Errorf("New without an arena: a hall: %v, error %d; want error %d", h != nil, e, api.ErrState)
		}
	}
	if a.Live() != 0 {
		t.Errorf("halls alone made %d things", a.Live())
	}
}

func TestNewIsEmpty(t *testing.T) {
	g := alone(t)
	for _, name := range []string{"a", "abc", "", "!0k0", "A"} {
		g.no(get(name), api.ErrNone)
		g.no(drop(name), api.ErrNone)
	}
	g.want(clean(), api.Answer{})
	// The first key is the one of Serial 0, and all universes and keys that a hall may have are free.
	for i := range api.MaxWorlds {
		g.ok(found(nth(i), life))
	}
	for range api.MaxKeys {
		g.key("a", read)
	}
}

func TestHallsOfOneArenaAreApart(t *testing.T) {
	a := build(t, 1000)
	g, theirs := enter(t, a, mine, 5), enter(t, a, other, 5)
	g.ok(found("a", life), set("a", rod()...))
	k := g.key("a", both)
	theirs.no(get("a"), api.ErrNone)
	theirs.no(get(k), api.ErrNone)
	theirs.no(step(k, 1), api.ErrNone)
	theirs.no(drop("a"), api.ErrNone)
	theirs.ok(found("a", flood))
	theirs.holds("a", flood, nil)
	theirs.want(clean(), api.Answer{})
	g.holds("a", life, rod())
	g.holds(k, life, rod())
}

func someRequests() []api.Request {
	return []api.Request{
		found("a", life), found("A", api.Rule{Born: 1}), double("a", "b"), double("!0k0", ""), drop("a"), drop(""),
		set("a", rod()...), set("a", at(api.MaxCoord, 0)), step("a", 1), step("a", -1), get("a"), count("a"), box("a"),
		get("!0k0"), lease("a", 1), lease("!0k0", 9), clean(), {}, {Verb: 99}, {Verb: -1},
	}
}

func TestNilHall(t *testing.T) {
	var none *hall.Hall
	for _, q := range someRequests() {
		if x := none.Do(q); !sameAnswer(x, api.Answer{Code: api.ErrState}) {
			t.Errorf("nil hall, %v: %v; want error %d alone", q, x, api.ErrState)
		}
	}
}

// A hall that New has not made has no arena.
func TestHallOutOfNowhere(t *testing.T) {
	var h hall.Hall
	for _, q := range someRequests() {
		if x := h.Do(q); !sameAnswer(x, api.Answer{Code: api.ErrState}) {
			t.Errorf("zero hall, %v: %v; want error %d alone", q, x, api.ErrState)
		}
	}
}

// P10.2

// Each verb that takes a key wants a right of it; a name has all rights.
func TestRights(t *testing.T) {
	for _, s := range []struct {
		what string
		ask  func(name string) api.Request
		need int
	}{
		{"get", get, read},
		{"count", count, read},
		{"box", box, read},
		{"copy", func(name string) api.Request { return double(name, "b") }, read},
		{"set", func(name string) api.Request { return set(name, at(5, 5)) }, write},
		{"set nothing", func(name string) api.Request { return set(name) }, write},
		{"step", func(name string) api.Request { return step(name, 1) }, write},
		{"step 0", func(name string) api.Request { return step(name, 0) }, write},
	} {
		for _, has := range []int{read, write, both} {
			g := alone(t)
			g.ok(found("a", life), set("a", rod()...))
			k := g.key("a", has)
			if has&s.need == 0 {
				g.no(s.ask(k), api.ErrRight)
			} else if x := g.h.Do(s.ask(k)); x.Code != api.OK {
				t.Errorf("%s by a key with %d: error %d", s.what, has, x.Code)
			}
			if x := g.h.Do(s.ask("a")); x.Code != api.OK && s.what != "copy" {
				t.Errorf("%s by name: error %d", s.what, x.Code)
			}
		}
	}
}

// By a key a request does just what it does by the name.
func TestKeysOpenTheirUniverse(t *testing.T) {
	g := alone(t)
	g.ok(found("a", life), found("b", flood), set("a", rod()...), set("b", at(9, 9)))
	k, m := g.key("b", both), g.key("a", both)
	g.holds(k, flood, cells(at(9, 9)))
	g.holds(m, life, rod())
	g.ok(set(k, at(1, 1)), step(m, 1), double(k, "c"))
	g.holds("b", flood, cells(at(9, 9), at(1, 1)))
	g.holds("a", life, cells(at(1, -1), at(1, 0), at(1, 1)))
	g.holds("c", flood, cells(at(9, 9), at(1, 1)))
}

// wrongPlaces are no universe's name, and no key's text.
func wrongPlaces(k string) []string {
	return []string{"", "b", "aa", "A", "a ", " a", "a\x00", "!", k[1:], k + "0", k[:len(k)-1], "!0k", "!1k0", "!a", "?",
		"\xff", "abcdefghijklm", string(make([]byte, 5000))}
}

func TestNoSuchUniverse(t *testing.T) {
	g := alone(t)
	g.ok(found("a", life), set("a", rod()...))
	k := g.key("a", both)
	far := at(api.MaxCoord, 0)
	for _, p := range wrongPlaces(k) {
		for _, q := range []api.Request{
			get(p), count(p), box(p), set(p), set(p, at(1, 1)), set(p, far), step(p, 0), step(p, 1), step(p, -1),
			double(p, "c"), double(p, "A"), double(p, "a"), drop(p),
		} {
			g.no(q, api.ErrNone)
		}
	}
}

// The name's error comes first: what else is wrong is not told.
func TestRightAheadOfTheRest(t *testing.T) {
	g := alone(t)
	g.ok(found("a", life), set("a", rod()...))
	r, w := g.key("a", read), g.key("a", write)
	g.no(set(r, at(api.MaxCoord, 0)), api.ErrRight)
	g.no(set(r, make([]api.Cell, api.MaxCells+1)...), api.ErrRight)
	g.no(step(r, -1), api.ErrRight)
	g.no(step(r, api.MaxSteps+1), api.ErrRight)
	g.no(double(w, "A"), api.ErrRight)
	g.no(double(w, "a"), api.ErrRight)
	g.limit(0)
	g.no(set(r, at(9, 9)), api.ErrRight)
	g.no(step(r, 9), api.ErrRight)
	g.no(set("b", at(9, 9)), api.ErrNone)
}

// What a verb does not speak of in a request is nothing to it.
func TestOtherFieldsMeanNothing(t *testing.T) {
	junk := func(q api.Request) api.Request {
		if q.Name == "" {
			q.Name = "!"
		}
		if q.Other == "" {
			q.Other = "A"
		}
		if q.Rule == (api.Rule{}) {
			q.Rule = api.Rule{Born: -1, Live: 1 << 60}
		}
		if q.N == 0 {
			q.N = math.MinInt
		}
		if len(q.Cells) == 0 {
			q.Cells = make([]api.Cell, api.MaxCells+1)
			q.Cells[0] = at(math.MinInt, math.MaxInt)
		}
		return q
	}
	g := alone(t)
	g.ok(junk(found("a", life)), junk(set("a", rod()...)), junk(step("a", 1)))
	l := cells(at(1, -1), at(1, 0), at(1, 1))
	g.want(junk(get("a")), api.Answer{N: 3, Rule: life, Cells: l})
	g.want(junk(count("a")), api.Answer{N: 3, Rule: life})
	g.want(junk(box("a")), api.Answer{N: 1, Rule: life, Box: api.Box{X0: 1, Y0: -1, X1: 1, Y1: 1}})
	g.ok(junk(double("a", "b")))
	g.want(junk(lease("b", read)), api.Answer{Key: "!0k0"})
	g.ok(junk(drop("a")))
	if x := g.h.Do(junk(clean())); x.Code != api.OK || x.N == 0 {
		t.Errorf("clean: %v", x)
	}
	g.holds("b", life, l)
}

// P10.6, of the verbs that are none.

func TestOtherVerbs(t *testing.T) {
	g := alone(t)
	g.ok(found("a", life), set("a", rod()...))
	k := g.key("a", both)
	for _, verb := range []int{0, -1, -2, -10, api.VerbClean + 1, 12, 99, 1 << 32, 1<<32 + 1, math.MinInt, math.MaxInt} {
		for _, name := range []string{"", "a", "b", k, "!0k1"} {
			g.no(api.Request{Verb: verb, Name: name, Other: "c", Rule: life, N: 1, Cells: rod()}, api.ErrKind)
		}
		g.no(api.Request{Verb: verb}, api.ErrKind)
	}
	g.holds(k, life, rod())
}
