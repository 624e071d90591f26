package hall_test

import (
	"math/rand"
	"slices"
	"strings"
	"testing"

	"lifelodge/api"
	"lifelodge/keys"
)

// slowTidy puts each cell where it belongs, one by one.
func slowTidy(l []api.Cell) []api.Cell {
	var tidy []api.Cell
	for _, c := range l {
		i := len(tidy)
		for i > 0 && (tidy[i-1].Y > c.Y || tidy[i-1].Y == c.Y && tidy[i-1].X > c.X) {
			i--
		}
		if i == 0 || tidy[i-1] != c {
			tidy = slices.Insert(tidy, i, c)
		}
	}
	return tidy
}

func slowBox(l []api.Cell) (b api.Box, some bool) {
	for _, c := range l {
		if !some {
			b, some = api.Box{X0: c.X, Y0: c.Y, X1: c.X, Y1: c.Y}, true
		}
		b = api.Box{X0: min(b.X0, c.X), Y0: min(b.Y0, c.Y), X1: max(b.X1, c.X), Y1: max(b.Y1, c.Y)}
	}
	return b, some
}

// slowNext asks each place around each cell how many of its neighbours live.
func slowNext(r api.Rule, l []api.Cell) []api.Cell {
	lives := map[api.Cell]bool{}
	for _, c := range l {
		lives[c] = true
	}
	var next []api.Cell
	for _, c := range l {
		for _, near := range field(c.X-1, c.Y-1, 3, 3) {
			n := 0
			for _, beside := range field(near.X-1, near.Y-1, 3, 3) {
				if beside != near && lives[beside] {
					n++
				}
			}
			set := r.Born
			if lives[near] {
				set = r.Live
			}
			if set>>n&1 == 1 {
				next = append(next, near)
			}
		}
	}
	return slowTidy(next)
}

// model is what a hall should be, as lists.
type model struct {
	draw   int
	serial int
	worlds []modelWorld
	keys   []api.Key
}

type modelWorld struct {
	name string
	rule api.Rule
	l    []api.Cell // tidy
}

func refusal(e api.Errno) api.Answer { return api.Answer{Code: e} }

func (m *model) find(name string) *modelWorld {
	for i := range m.worlds {
		if m.worlds[i].name == name {
			return &m.worlds[i]
		}
	}
	return nil
}

func (m *model) open(place string, right int) (*modelWorld, api.Errno) {
	for _, k := range m.keys {
		if k.Text == place {
			if k.Rights&right == 0 {
				return nil, api.ErrRight
			}
			return m.find(k.Name), api.OK
		}
	}
	w := m.find(place)
	if w == nil {
		return nil, api.ErrNone
	}
	return w, api.OK
}

func (m *model) found(name string, r api.Rule, l []api.Cell) api.Answer {
	switch {
	case name == "" || len(name) > 12 || strings.ContainsFunc(name, func(c rune) bool { return c < 'a' || c > 'z' }):
		return refusal(api.ErrForm)
	case r.Born < 0 || r.Born > 511 || r.Live < 0 || r.Live > 511 || r.Born%2 == 1:
		return refusal(api.ErrKind)
	case m.find(name) != nil:
		return refusal(api.ErrTwice)
	case len(m.worlds) == 16:
		return refusal(api.ErrFull)
	}
	m.worlds = append(m.worlds, modelWorld{name, r, slices.Clone(l)})
	return api.Answer{}
}

func (m *model) drop(name string) api.Answer {
	if m.find(name) == nil {
		return refusal(api.ErrNone)
	}
	m.worlds = slices.DeleteFunc(m.worlds, func(w modelWorld) bool { return w.name == name })
	m.keys = slices.DeleteFunc(m.keys, func(k api.Key) bool { return k.Name == name })
	return api.Answer{}
}

func (m *model) lease(name string, rights int) api.Answer {
	switch {
	case strings.HasPrefix(name, "!"): // no other names that begin so are asked
		return refusal(api.ErrRight)
	case m.find(name) == nil:
		return refusal(api.ErrNone)
	case rights < 1 || rights > 3:
		return refusal(api.ErrRange)
	case len(m.keys) == 32:
		return refusal(api.ErrFull)
	}
	_, text, _ := keys.Mint(api.Table{Serial: m.serial}, name, rights, m.draw)
	m.serial++
	m.keys = append(m.keys, api.Key{Text: text, Name: name, Rights: rights})
	return api.Answer{Key: text}
}

func (w *modelWorld) set(l []api.Cell) api.Answer {
	for _, c := range l {
		if max(c.X, -c.X, c.Y, -c.Y) >= api.MaxCoord {
			return refusal(api.ErrRange)
		}
	}
	w.l = slowTidy(append(slices.Clone(w.l), l...))
	return api.Answer{}
}

func (w *modelWorld) step(n int) api.Answer {
	if n < 0 || n > api.MaxSteps {
		return refusal(api.ErrRange)
	}
	for _, c := range w.l {
		if max(c.X, -c.X, c.Y, -c.Y)+n >= api.MaxCoord {
			return refusal(api.ErrRange)
		}
	}
	for range n {
		w.l = slowNext(w.rule, w.l)
	}
	return api.Answer{}
}

// do is the answer of a hall that may have all it needs. Of a clean it knows not how much is given up.
func (m *model) do(q api.Request) api.Answer {
	switch q.Verb {
	case api.VerbNew:
		return m.found(q.Name, q.Rule, nil)
	case api.VerbDrop:
		return m.drop(q.Name)
	case api.VerbLease:
		return m.lease(q.Name, q.N)
	case api.VerbClean:
		return api.Answer{}
	}
	right := read
	if q.Verb == api.VerbSet || q.Verb == api.VerbStep {
		right = write
	}
	w, e := m.open(q.Name, right)
	if e != api.OK {
		return refusal(e)
	}
	b, some := slowBox(w.l)
	switch q.Verb {
	case api.VerbCopy:
		return m.found(q.Other, w.rule, w.l)
	case api.VerbSet:
		return w.set(q.Cells)
	case api.VerbStep:
		return w.step(q.N)
	case api.VerbGet:
		return api.Answer{N: len(w.l), Rule: w.rule, Cells: w.l}
	case api.VerbCount:
		return api.Answer{N: len(w.l), Rule: w.rule}
	}
	if some {
		return api.Answer{N: 1, Rule: w.rule, Box: b}
	}
	return api.Answer{Rule: w.rule}
}

func pick[T any](r *rand.Rand, l ...T) T { return l[r.Intn(len(l))] }

// place is a name or a key's text, mostly of one that is there.
func (m *model) place(r *rand.Rand) string {
	switch n := r.Intn(20); {
	case n < 7 && len(m.keys) > 0:
		return pick(r, m.keys...).Text
	case n < 18 && len(m.worlds) > 0:
		return pick(r, m.worlds...).name
	}
	return pick(r, "a", "b", "zz", "", "!0k0", "!5k5", "A")
}

func someCells(r *rand.Rand, most int) []api.Cell {
	n := pick(r, 2, 4, 4, 9, 30)
	x, y := 0, 0
	switch r.Intn(12) {
	case 0:
		x, y = r.Intn(1<<30)-1<<29, r.Intn(1<<30)-1<<29
	case 1:
		x = pick(r, edge-n, -edge+n)
	case 2:
		y = pick(r, edge-n, -edge+n)
	}
	l := make([]api.Cell, r.Intn(most))
	for i := range l {
		l[i] = at(x+r.Intn(2*n)-n, y+r.Intn(2*n)-n)
	}
	return l
}

// ask is any request, mostly of the kinds that change cells.
func (m *model) ask(r *rand.Rand) api.Request {
	name := pick(r, nth(r.Intn(20)), nth(r.Intn(20)), nth(r.Intn(20)), "A", "ab", "")
	switch r.Intn(16) {
	case 0, 1, 2:
		return found(name, pick(r, life, life, life, still, api.Rule{Born: 4, Live: 12}, api.Rule{Born: 9, Live: 12}))
	case 3:
		return double(m.place(r), name)
	case 4:
		if r.Intn(3) == 0 {
			return drop(m.place(r))
		}
	case 5:
		return lease(pick(r, name, m.place(r)), r.Intn(5))
	case 6, 7, 8:
		return set(m.place(r), someCells(r, 12)...)
	case 9, 10, 11:
		return step(m.place(r), pick(r, 0, 1, 2, 3, 7, 12, 12, -1, api.MaxSteps+1))
	case 12:
		if r.Intn(3) == 0 {
			return clean()
		}
	case 13:
		return count(m.place(r))
	case 14:
		return box(m.place(r))
	}
	return get(m.place(r))
}

func TestAgainstAModel(t *testing.T) {
	told := map[int]map[api.Errno]int{}
	for seed := range 60 {
		r := rand.New(rand.NewSource(int64(seed)))
		g := enter(t, build(t, api.MaxRoom), r.Intn(api.Tenants), seed)
		m := &model{draw: seed}
		for range 150 {
			q := m.ask(r)
			wanted := m.do(q)
			had := g.a.Count(g.tenant)
			x := g.h.Do(q)
			if q.Verb == api.VerbClean {
				wanted.N = had - g.a.Count(g.tenant)
			}
			if !sameAnswer(x, wanted) {
				t.Fatalf("seed %d, %v: %v; want %v", seed, q, x, wanted)
			}
			if x.Code != api.OK && g.a.Count(g.tenant) != had {
				t.Fatalf("seed %d, %v, refused: %d things became %d", seed, q, had, g.a.Count(g.tenant))
			}
			if told[q.Verb] == nil {
				told[q.Verb] = map[api.Errno]int{}
			}
			told[q.Verb][x.Code]++
		}
		for _, w := range m.worlds {
			g.holds(w.name, w.rule, w.l)
		}
	}
	for verb := api.VerbNew; verb <= api.VerbClean; verb++ {
		if told[verb][api.OK] < 20 || verb != api.VerbClean && len(told[verb]) < 2 {
			t.Errorf("the verb %d was told %v: too little was tried", verb, told[verb])
		}
	}
}
