package house_test

import (
	"math/rand"
	"strconv"
	"strings"
	"testing"

	"lifelodge/api"
	"lifelodge/arena"
	"lifelodge/frame"
	"lifelodge/hall"
	"lifelodge/house"
	"lifelodge/speech"
)

// guest is a tenant that has an arena of its own, and so no others: all its lines wait, however many.
type guest struct {
	a     *arena.Arena
	h     *hall.Hall
	rest  string
	lines []string
	told  string
}

func newGuest(t *testing.T, may, draw int) *guest {
	t.Helper()
	a, e := arena.New(api.MaxRoom)
	if e != api.OK {
		t.Fatalf("arena: error %d", e)
	}
	a.Limit(0, may)
	h, e := hall.New(a, 0, draw)
	if e != api.OK {
		t.Fatalf("hall: error %d", e)
	}
	return &guest{a: a, h: h}
}

func (g *guest) feed(s string) {
	pieces := strings.Split(g.rest+s, "\n")
	g.lines = append(g.lines, pieces[:len(pieces)-1]...)
	g.rest = pieces[len(pieces)-1]
}

func (g *guest) turn() {
	line := g.lines[0]
	g.lines = g.lines[1:]
	g.told += frame.Wrap(g.answer(line))
}

func (g *guest) answer(line string) string {
	if line == "\x00" || len(line) > api.MaxLine {
		return "no 1"
	}
	q, e := speech.Read(line)
	text := ""
	if e == api.OK {
		text, e = speech.Tell(q.Verb, g.h.Do(q))
	}
	if e != api.OK {
		return "no " + strconv.Itoa(int(e))
	}
	return text
}

// model is a house of such guests.
type model struct {
	guests []*guest
	next   int
	ticks  int
	log    string
}

func newModel(t *testing.T, quotas, draws []int) *model {
	t.Helper()
	m := &model{}
	for i, may := range quotas {
		m.guests = append(m.guests, newGuest(t, may, draws[i]))
	}
	return m
}

func (m *model) turn() bool {
	for range m.guests {
		g := m.guests[m.next]
		m.next = (m.next + 1) % len(m.guests)
		if len(g.lines) > 0 {
			g.turn()
			return true
		}
	}
	return false
}

func (m *model) tick() {
	m.ticks++
	m.log += strconv.Itoa(m.ticks)
	for _, g := range m.guests {
		m.log += " " + strconv.Itoa(min(len(g.lines), api.MaxQueue))
	}
	m.log += "\n"
}

func pick[T any](r *rand.Rand, l ...T) T { return l[r.Intn(len(l))] }

// place is a name of few, or a key, which may be one that the tenant was told.
func place(r *rand.Rand, draw int) string {
	if r.Intn(5) == 0 {
		return keyText(r.Intn(4), draw)
	}
	return pick(r, "a", "b", "c")
}

// someLine is a line as a tenant may send it, good or not.
func someLine(r *rand.Rand, draw int) string {
	switch r.Intn(16) {
	case 0, 1:
		return "new " + pick(r, "a", "b", "c", "d", "A", "") + " " + pick(r, "B3/S23", "B36/S23", "B2/S", "B12345678/S012345678", "B/S", "B3S23")
	case 2, 3, 4:
		line := "set " + place(r, draw)
		for range r.Intn(9) {
			line += " " + strconv.Itoa(r.Intn(9)-4) + "," + strconv.Itoa(r.Intn(9)-4)
		}
		if r.Intn(9) == 0 {
			line += pick(r, " 1000,-1000", " 1099511627776,0", " 0,-1099511627775", " 5", " ")
		}
		return line
	case 5, 6, 7:
		return "step " + place(r, draw) + " " + strconv.Itoa(pick(r, 0, 1, 2, 3, 5, 8, 30, 64, 1000, -1))
	case 8:
		return "get " + place(r, draw)
	case 9:
		return pick(r, "count ", "box ") + place(r, draw)
	case 10:
		return "copy " + place(r, draw) + " " + pick(r, "a", "b", "c", "d", "!")
	case 11:
		return "lease " + pick(r, "a", "b", "c") + " " + strconv.Itoa(r.Intn(5))
	case 12:
		return "drop " + pick(r, "a", "b", "b", "c", "d", "d")
	case 13, 14:
		return "clean"
	}
	return pick(r, "", "what", "\x00", "clean ", strings.Repeat("x", api.MaxLine), strings.Repeat("y", api.MaxLine+1))
}

// someBytes is so many lines of a tenant, which begins with a universe and keys to it.
func someBytes(seed, lines, draw int) string {
	r := rand.New(rand.NewSource(int64(seed)))
	s := strings.Builder{}
	s.WriteString("new a B3/S23\nlease a 1\nlease a 3\n")
	for range lines {
		s.WriteString(someLine(r, draw) + "\n")
	}
	return s.String()
}

// wantModel wants a house to be as the model is, as far as can be seen.
func wantModel(t *testing.T, h *house.House, m *model) {
	t.Helper()
	most := 0
	for tenant, g := range m.guests {
		if s := h.Out(tenant); s != g.told {
			t.Fatalf("tenant %d was told %q; alone it is told %q", tenant, unwrap(t, s), unwrap(t, g.told))
		}
		if n := h.Has(tenant); n != g.a.Count(0) {
			t.Fatalf("tenant %d has %d; alone it has %d", tenant, n, g.a.Count(0))
		}
		most = max(most, h.Has(tenant))
	}
	if h.Log() != m.log {
		t.Fatalf("the log is %q; want %q", h.Log(), m.log)
	}
	if h.Live() < most {
		t.Fatalf("there are %d things, of which a tenant has %d", h.Live(), most)
	}
}

// Houses at random, with tenants that say much the same at times, against guests that live alone.
func TestAgainstModel(t *testing.T) {
	full, codes := 0, map[string]int{}
	for seed := range 60 {
		r := rand.New(rand.NewSource(int64(seed)))
		n := pick(r, 1, 2, 3, 5)
		var quotas, draws []int
		var bytes []string
		for range n {
			quotas = append(quotas, pick(r, 0, 5, 20, 60, 200, 1000))
			draws = append(draws, r.Intn(3))
			bytes = append(bytes, someBytes(r.Intn(6), 60+r.Intn(60), draws[len(draws)-1]))
		}
		c := may(quotas...)
		h, e := house.Boot(c, draws)
		if e != api.OK {
			t.Fatalf("Boot(%v): error %d", c, e)
		}
		m := newModel(t, quotas, draws)
		for range 400 {
			doSomething(t, r, h, m, bytes)
			if h.Live() == c.Room {
				full++
			}
			if h.Live() > c.Room {
				t.Fatalf("%d things in a room for %d", h.Live(), c.Room)
			}
		}
		wantModel(t, h, m)
		for tenant := range n {
			for _, s := range unwrap(t, h.Out(tenant)) {
				codes[s]++
			}
		}
	}
	if full < 100 || codes["no 9"] < 200 || codes["ok"] < 500 || codes["no 6"] < 100 || codes["no 10"] < 20 || codes["no 1"] < 50 {
		t.Errorf("the arena was full %d times, told %d times no 9, %d ok, %d no 6, %d no 10, %d no 1: too little was tried",
			full, codes["no 9"], codes["ok"], codes["no 6"], codes["no 10"], codes["no 1"])
	}
}

// doSomething does a deed at random to a house and its model.
func doSomething(t *testing.T, r *rand.Rand, h *house.House, m *model, bytes []string) {
	t.Helper()
	switch r.Intn(8) {
	case 0:
		h.Tick()
		m.tick()
	case 1, 2, 3:
		for range r.Intn(9) {
			if took := m.turn(); h.Turn() != took {
				t.Fatalf("a turn: want %v", took)
			}
		}
	default:
		tenant := r.Intn(len(bytes))
		n := min(pick(r, 0, 1, 5, 20, 100, 1000, api.MaxFeed), len(bytes[tenant]))
		feed(t, h, tenant, bytes[tenant][:n])
		m.guests[tenant].feed(bytes[tenant][:n])
		bytes[tenant] = bytes[tenant][n:]
	}
	if r.Intn(20) == 0 {
		wantModel(t, h, m)
	}
}
