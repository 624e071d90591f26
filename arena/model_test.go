package arena_test

import (
	"math/rand"
	"slices"
	"testing"

	"lifelodge/api"
	"lifelodge/arena"
)

// model is an arena by the words of the chapter, slowly: a thing knows of each tenant whose own it is since when.
type model struct {
	room, now int
	things    map[int]*record
	limits    map[int]int
	since     map[int]int // the time of a tenant's last Mark, Undo or Clean
}

type record struct {
	note         bool
	parts        [4]int
	level, value int
	owners       map[int]int
}

func newModel(room int) *model {
	m := &model{room: room, things: map[int]*record{}, limits: map[int]int{}, since: map[int]int{}}
	for t := range api.Tenants {
		m.limits[t] = room
	}
	return m
}

func isTenant(t int) bool { return t >= 0 && t < api.Tenants }

func (m *model) own(t, id int) *record {
	if x, ok := m.things[id]; ok {
		if _, ok := x.owners[t]; ok {
			return x
		}
	}
	return nil
}

func (m *model) limit(t, n int) api.Errno {
	if !isTenant(t) || n < 0 || n > m.room {
		return api.ErrRange
	}
	m.limits[t] = n
	return api.OK
}

func (m *model) level(t, id int) (int, api.Errno) {
	if isTenant(t) && (id == 0 || id == 1) {
		return 0, api.OK
	}
	if x := m.own(t, id); x != nil && !x.note {
		return x.level, api.OK
	}
	return 0, api.ErrNone
}

func (m *model) kids(t, id int) ([4]int, api.Errno) {
	if x := m.own(t, id); x != nil && !x.note {
		return x.parts, api.OK
	}
	return [4]int{}, api.ErrNone
}

func (m *model) find(note bool, parts [4]int) (int, *record) {
	for id, x := range m.things {
		if x.note == note && x.parts == parts {
			return id, x
		}
	}
	return 0, nil
}

func (m *model) become(t int, x *record) (int, api.Errno) {
	id, there := m.find(x.note, x.parts)
	if there != nil {
		if _, ok := there.owners[t]; ok {
			return id, api.OK
		}
	}
	if m.count(t) >= m.limits[t] {
		return 0, api.ErrQuota
	}
	if there == nil {
		if len(m.things) == m.room {
			m.sweep()
		}
		if len(m.things) == m.room {
			return 0, api.ErrFull
		}
		for id = 2; m.things[id] != nil; id++ {
		}
		x.owners = map[int]int{}
		m.things[id], there = x, x
	}
	m.now++
	there.owners[t] = m.now
	return id, api.OK
}

func (m *model) join(t int, q [4]int) (int, api.Errno) {
	if !isTenant(t) {
		return 0, api.ErrRange
	}
	var levels []int
	for _, id := range q {
		n, e := m.level(t, id)
		if e != api.OK {
			return 0, e
		}
		levels = append(levels, n)
	}
	if slices.Min(levels) != slices.Max(levels) || levels[0] >= api.MaxLevel {
		return 0, api.ErrLevel
	}
	return m.become(t, &record{parts: q, level: levels[0] + 1})
}

func (m *model) takeNote(t, square, rule, j, value int) api.Errno {
	_, e := m.level(t, square)
	_, f := m.level(t, value)
	if e != api.OK || f != api.OK {
		return api.ErrNone
	}
	x := &record{note: true, parts: [4]int{square, rule, j}, value: value}
	if _, there := m.find(true, x.parts); there != nil && there.value != value {
		return api.ErrTwice
	}
	_, e = m.become(t, x)
	return e
}

func (m *model) recall(t, square, rule, j int) (int, bool) {
	_, x := m.find(true, [4]int{square, rule, j})
	if x == nil || x.owners[t] == 0 {
		return 0, false
	}
	return x.value, true
}

func (m *model) count(t int) int {
	n := 0
	for _, x := range m.things {
		if x.owners[t] > 0 {
			n++
		}
	}
	return n
}

func (m *model) mark(t int) api.Errno {
	if !isTenant(t) {
		return api.ErrState
	}
	m.since[t] = m.now
	return api.OK
}

func (m *model) drop(t int, goes func(id int, x *record) bool) int {
	n := 0
	for id, x := range m.things {
		if x.owners[t] > 0 && goes(id, x) {
			delete(x.owners, t)
			n++
		}
	}
	m.mark(t)
	return n
}

func (m *model) undo(t int) int {
	return m.drop(t, func(_ int, x *record) bool { return x.owners[t] > m.since[t] })
}

// back drops what became the tenant's own last.
func (m *model) back(t, n int) int {
	var times []int
	for _, x := range m.things {
		if x.owners[t] > m.since[t] {
			times = append(times, x.owners[t])
		}
	}
	if len(times) <= n {
		return 0
	}
	since := m.since[t]
	slices.Sort(times)
	gone := m.drop(t, func(_ int, x *record) bool { return x.owners[t] >= times[n] })
	m.since[t] = since
	return gone
}

func (m *model) clean(t int, roots []int) int {
	stays := map[int]bool{}
	for list := slices.Clone(roots); len(list) > 0; list = list[1:] {
		if x := m.own(t, list[0]); x != nil && !x.note {
			stays[list[0]] = true
			list = append(list, x.parts[:]...)
		}
	}
	return m.drop(t, func(id int, _ *record) bool { return !stays[id] })
}

func (m *model) sweep() int {
	n := 0
	for id, x := range m.things {
		if len(x.owners) == 0 {
			delete(m.things, id)
			n++
		}
	}
	return n
}

func (m *model) look() look {
	l := look{live: len(m.things)}
	for t := range l.counts {
		l.counts[t] = m.count(t)
	}
	for id, x := range m.things {
		if !x.note {
			s := api.Square{Id: id, Level: x.level, Kids: x.parts}
			for t := range x.owners {
				s.Mask |= 1 << t
			}
			l.squares = append(l.squares, s)
		}
	}
	slices.SortFunc(l.squares, func(x, y api.Square) int { return x.Id - y.Id })
	return l
}

// pair is an arena and its model, and what is drawn for both.
type pair struct {
	*testing.T
	a    *arena.Arena
	m    *model
	r    *rand.Rand
	rare int // a wrong input is drawn one time out of so many
}

func (p *pair) tenant() int {
	if p.r.Intn(p.rare) == 0 {
		return []int{-1, api.Tenants, 4}[p.r.Intn(3)]
	}
	return []int{0, 1, last}[p.r.Intn(3)]
}

func (p *pair) id() int {
	if p.r.Intn(p.rare) == 0 {
		return []int{-1, -2, p.m.room + 2, p.m.room + 9}[p.r.Intn(4)]
	}
	return p.r.Intn(min(p.m.room, len(p.m.things)+2) + 2)
}

// ownId is most often the tenant's own square, of a level.
func (p *pair) ownId(t, level int) int {
	for range 20 {
		if id := p.id(); id < 2 && level == 0 || p.m.own(t, id) != nil && p.m.things[id].level == level {
			return id
		}
	}
	return p.id()
}

func (p *pair) check(what string, same bool) {
	p.Helper()
	if !same {
		p.Fatalf("%s: not as the model", what)
	}
}

func (p *pair) grow() {
	t := p.tenant()
	level := p.r.Intn(4)
	if p.r.Intn(2) == 0 {
		var q [4]int
		for i := range q {
			q[i] = p.ownId(t, level)
		}
		id, e := p.a.Join(t, q)
		wanted, f := p.m.join(t, q)
		p.check("Join", id == wanted && e == f)
		return
	}
	square, value, rule, j := p.ownId(t, level), p.ownId(t, p.r.Intn(3)), p.r.Intn(2), p.r.Intn(2)
	p.check("Note", p.a.Note(t, square, rule, j, value) == p.m.takeNote(t, square, rule, j, value))
}

func (p *pair) shrink() {
	t := p.tenant()
	switch p.r.Intn(7) {
	case 0:
		n := p.r.Intn(p.m.room+3) - 1
		p.check("Limit", p.a.Limit(t, n) == p.m.limit(t, n))
	case 1: // the whole room, so that not every tenant has too little before long
		p.check("Limit", p.a.Limit(t, p.m.room) == p.m.limit(t, p.m.room))
	case 2:
		p.check("Mark", p.a.Mark(t) == p.m.mark(t))
	case 3:
		p.check("Undo", p.a.Undo(t) == p.m.undo(t))
	case 4:
		roots := make([]int, p.r.Intn(6))
		for i := range roots {
			roots[i] = p.ownId(t, p.r.Intn(4))
		}
		p.check("Clean", p.a.Clean(t, roots) == p.m.clean(t, roots))
	case 5:
		p.check("Sweep", p.a.Sweep() == p.m.sweep())
	case 6:
		n := p.r.Intn(p.a.Fresh(t) + 2)
		p.check("Back", p.a.Back(t, n) == p.m.back(t, n))
	}
}

func (p *pair) compare() {
	wantLook(p.T, p.a, p.m.look())
	t, id := p.tenant(), p.id()
	n, e := p.a.Level(t, id)
	level, f := p.m.level(t, id)
	p.check("Level", n == level && e == f)
	q, e := p.a.Kids(t, id)
	kids, f := p.m.kids(t, id)
	p.check("Kids", q == kids && e == f)
	for rule := range 2 {
		for j := range 2 {
			v, ok := p.a.Recall(t, id, rule, j)
			value, there := p.m.recall(t, id, rule, j)
			p.check("Recall", v == value && ok == there)
		}
	}
}

func TestAgainstTheModel(t *testing.T) {
	for seed := range 150 {
		r := rand.New(rand.NewSource(int64(seed)))
		room := 1 + r.Intn(40)
		p := &pair{t, build(t, room), newModel(room), r, 40}
		for range 400 {
			if r.Intn(8) > 0 {
				p.grow()
			} else {
				p.shrink()
			}
			p.compare()
			if t.Failed() {
				t.Fatalf("seed %d", seed)
			}
		}
	}
}
