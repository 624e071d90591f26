package rule_test

import (
	"math"
	"math/rand"
	"slices"
	"strings"
	"testing"

	"lifelodge/api"
	"lifelodge/plane"
	"lifelodge/rule"
)

const edge = api.MaxCoord - 1

// Rules by name: life, and some in which cells go on in plain ways.
var (
	life  = api.Rule{Born: 1 << 3, Live: 1<<2 | 1<<3}
	still = api.Rule{Live: 511}            // what lives stays, nothing is born
	ring  = api.Rule{Born: 1 << 1}         // a lone cell becomes its 8 neighbours
	flood = api.Rule{Born: 510, Live: 511} // what lives stays, and its neighbours are born
)

func at(x, y int) api.Cell { return api.Cell{X: x, Y: y} }

func cells(l ...api.Cell) []api.Cell { return l }

// apart is n cells of which none has a neighbour's neighbour, from x on.
func apart(x, y, n int) []api.Cell {
	l := make([]api.Cell, n)
	for i := range l {
		l[i] = at(x+4*i, y)
	}
	return l
}

func want(t *testing.T, what string, got []api.Cell, e api.Errno, wanted []api.Cell) {
	t.Helper()
	if e != api.OK || !slices.Equal(got, wanted) {
		t.Errorf("%s: %v, error %d; want %v", what, got, e, wanted)
	}
}

func refuse(t *testing.T, what string, got []api.Cell, e, wanted api.Errno) {
	t.Helper()
	if e != wanted || len(got) != 0 {
		t.Errorf("%s: %d cells, error %d; want error %d and no cells", what, len(got), e, wanted)
	}
}

// badRules are none, each for a reason of its own.
func badRules() []api.Rule {
	return []api.Rule{
		{Born: 1},
		{Born: 1, Live: 511},
		{Born: 511},
		{Born: 512},
		{Born: 514},
		{Born: -1},
		{Born: -2},
		{Born: math.MaxInt},
		{Born: math.MaxInt - 1},
		{Born: math.MinInt},
		{Born: 8, Live: 512},
		{Born: 8, Live: -1},
		{Born: 8, Live: math.MaxInt},
		{Born: 8, Live: math.MinInt},
		{Born: -1, Live: -1},
	}
}

// badLists are lists that Tidy refuses, each with its error.
func badLists() []struct {
	name string
	l    []api.Cell
	e    api.Errno
} {
	return []struct {
		name string
		l    []api.Cell
		e    api.Errno
	}{
		{"one cell too often", make([]api.Cell, api.MaxCells+1), api.ErrFull},
		{"too many, and too far", append(apart(0, 0, api.MaxCells), at(0, api.MaxCoord)), api.ErrFull},
		{"X at MaxCoord", cells(at(api.MaxCoord, 0)), api.ErrRange},
		{"X at -MaxCoord", cells(at(-api.MaxCoord, 0)), api.ErrRange},
		{"Y at MaxCoord", cells(at(0, 0), at(0, api.MaxCoord)), api.ErrRange},
		{"Y at -MaxCoord", cells(at(0, 0), at(0, -api.MaxCoord)), api.ErrRange},
		{"the greatest numbers", cells(at(math.MaxInt, math.MaxInt)), api.ErrRange},
		{"the least numbers", cells(at(math.MinInt, math.MinInt)), api.ErrRange},
	}
}

// P2.1

func TestGood(t *testing.T) {
	for born := -3; born < 1030; born++ {
		for live := -3; live < 1030; live++ {
			r := api.Rule{Born: born, Live: live}
			wanted := 0 <= born && born <= 511 && born%2 == 0 && 0 <= live && live <= 511
			if rule.Good(r) != wanted {
				t.Fatalf("Good(%v): %v", r, !wanted)
			}
		}
	}
	for _, r := range badRules() {
		if rule.Good(r) {
			t.Errorf("Good(%v)", r)
		}
	}
}

func TestText(t *testing.T) {
	for _, s := range []struct {
		r      api.Rule
		wanted string
	}{
		{api.Rule{}, "B/S"},
		{life, "B3/S23"},
		{api.Rule{Born: 2}, "B1/S"},
		{api.Rule{Live: 1}, "B/S0"},
		{api.Rule{Born: 256, Live: 256}, "B8/S8"},
		{api.Rule{Born: 1<<3 | 1<<6, Live: 1<<2 | 1<<3}, "B36/S23"},
		{api.Rule{Born: 510, Live: 511}, "B12345678/S012345678"},
	} {
		if got, e := rule.Text(s.r); e != api.OK || got != s.wanted {
			t.Errorf("Text(%v): %q, error %d; want %q", s.r, got, e, s.wanted)
		}
	}
	for _, r := range badRules() {
		if got, e := rule.Text(r); e != api.ErrRange || got != "" {
			t.Errorf("Text(%v): %q, error %d; want error %d", r, got, e, api.ErrRange)
		}
	}
}

// P2.2

// texts are all that Text can be, and those with a Born of bit 0, with their rules.
func texts() map[string]api.Rule {
	subsets := map[string]int{"": 0}
	for n, d := range strings.Split("012345678", "") {
		more := map[string]int{}
		for s, set := range subsets {
			more[s] = set
			more[s+d] = set | 1<<n
		}
		subsets = more
	}
	m := map[string]api.Rule{}
	for b, born := range subsets {
		for s, live := range subsets {
			m["B"+b+"/S"+s] = api.Rule{Born: born, Live: live}
		}
	}
	return m
}

func checkRead(t *testing.T, all map[string]api.Rule, s string) {
	t.Helper()
	wanted, known := all[s]
	wantedErr := api.OK
	switch {
	case !known:
		wantedErr = api.ErrForm
	case wanted.Born%2 == 1:
		wanted, wantedErr = api.Rule{}, api.ErrKind
	}
	if got, e := rule.Read(s); e != wantedErr || got != wanted {
		t.Errorf("Read(%q): %v, error %d; want %v, error %d", s, got, e, wanted, wantedErr)
	}
}

func TestReadTakesEveryText(t *testing.T) {
	all := texts()
	if len(all) != 512*512 {
		t.Fatalf("%d texts", len(all))
	}
	for s, r := range all {
		checkRead(t, all, s)
		if got, e := rule.Text(r); r.Born%2 == 0 && (e != api.OK || got != s) {
			t.Fatalf("Text(%v): %q, error %d; want %q", r, got, e, s)
		}
	}
}

// TestReadOfNearlyARule changes, adds and takes away single bytes, and swaps neighbours.
func TestReadOfNearlyARule(t *testing.T) {
	all := texts()
	for _, s := range []string{"B3/S23", "B/S", "B36/S", "B/S08", "B0/S1", "B03/S8", "B12345678/S012345678", "B8/S8"} {
		for i := range len(s) + 1 {
			for c := range 256 {
				b := string([]byte{byte(c)})
				checkRead(t, all, s[:i]+b+s[i:])
				if i < len(s) {
					checkRead(t, all, s[:i]+b+s[i+1:])
				}
			}
			if i < len(s) {
				checkRead(t, all, s[:i])
				checkRead(t, all, s[i:])
				checkRead(t, all, s[:i]+s[i+1:])
			}
			if i+1 < len(s) {
				checkRead(t, all, s[:i]+s[i+1:i+2]+s[i:i+1]+s[i+2:])
			}
		}
		checkRead(t, all, s+s)
	}
}

func TestReadRefuses(t *testing.T) {
	for _, s := range []struct {
		text   string
		wanted api.Errno
	}{
		{"", api.ErrForm},
		{"B", api.ErrForm},
		{"/", api.ErrForm},
		{"/S", api.ErrForm},
		{"B/", api.ErrForm},
		{"BS", api.ErrForm},
		{"3/S23", api.ErrForm},
		{"S23/B3", api.ErrForm},
		{"23/3", api.ErrForm},
		{"b3/s23", api.ErrForm},
		{"B3/S23 ", api.ErrForm},
		{" B3/S23", api.ErrForm},
		{"B3/S23\n", api.ErrForm},
		{"B3/S23\x00", api.ErrForm},
		{"B3/S23/S", api.ErrForm},
		{"B3/S/S23", api.ErrForm},
		{"BB3/S23", api.ErrForm},
		{"B3//S23", api.ErrForm},
		{"B+3/S23", api.ErrForm},
		{"B3/S-23", api.ErrForm},
		{"B33/S", api.ErrForm},
		{"B3/S32", api.ErrForm},
		{"B9/S", api.ErrForm},
		{"B/S9", api.ErrForm},
		{"B\u0663/S", api.ErrForm},
		{"B" + strings.Repeat("1", 1000) + "/S", api.ErrForm},
		{"B00/S", api.ErrForm},
		{"B30/S", api.ErrForm},
		{"B0/S9", api.ErrForm},
		{"B0/S32", api.ErrForm},
		{"B0", api.ErrForm},
		{"B0/S", api.ErrKind},
		{"B03/S23", api.ErrKind},
		{"B012345678/S012345678", api.ErrKind},
	} {
		if got, e := rule.Read(s.text); e != s.wanted || got != (api.Rule{}) {
			t.Errorf("Read(%q): %v, error %d; want error %d", s.text, got, e, s.wanted)
		}
	}
}

// P2.3

func TestLives(t *testing.T) {
	for n := -70; n < 140; n++ {
		for bit := range 63 {
			one := 1 << bit
			wanted := n == bit && bit <= 8
			if rule.Lives(api.Rule{Live: one}, true, n) != wanted || rule.Lives(api.Rule{Born: one}, false, n) != wanted {
				t.Fatalf("bit %d, %d neighbours: not %v", bit, n, wanted)
			}
			if rule.Lives(api.Rule{Born: one}, true, n) || rule.Lives(api.Rule{Live: one}, false, n) {
				t.Fatalf("bit %d, %d neighbours: Born and Live are mixed up", bit, n)
			}
		}
		// Bits of rules that are not good count just as well.
		all := api.Rule{Born: -1, Live: -1}
		wanted := 0 <= n && n <= 8
		if rule.Lives(all, true, n) != wanted || rule.Lives(all, false, n) != wanted {
			t.Errorf("all bits, %d neighbours: not %v", n, wanted)
		}
	}
	for _, n := range []int{math.MinInt, math.MinInt + 3, math.MaxInt, 1 << 32, 1<<32 + 3} {
		if rule.Lives(api.Rule{Born: 510, Live: 511}, true, n) || rule.Lives(api.Rule{Born: -1}, false, n) {
			t.Errorf("lives with %d neighbours", n)
		}
	}
	if !rule.Lives(life, true, 2) || !rule.Lives(life, true, 3) || !rule.Lives(life, false, 3) ||
		rule.Lives(life, false, 2) || rule.Lives(life, true, 1) || rule.Lives(life, true, 4) {
		t.Errorf("life is not as it is known")
	}
}

// P2.4

func TestNext(t *testing.T) {
	for _, s := range []struct {
		name      string
		r         api.Rule
		l, wanted []api.Cell
	}{
		{"nothing", life, nil, nil},
		{"nothing, with all that may be born", api.Rule{Born: 510, Live: 511}, cells(), nil},
		{"a lone cell dies", life, cells(at(0, 0)), nil},
		{"a lone cell stays", api.Rule{Live: 1}, cells(at(5, -5)), cells(at(5, -5))},
		{"a rod turns", life, cells(at(7, 0), at(5, 0), at(6, 0)), cells(at(6, -1), at(6, 0), at(6, 1))},
		{"a cell twice counts once", life, cells(at(5, 0), at(6, 0), at(7, 0), at(6, 0), at(5, 0)), cells(at(6, -1), at(6, 0), at(6, 1))},
		{"a block stays", life, cells(at(0, 0), at(1, 0), at(0, 1), at(1, 1)), cells(at(0, 0), at(1, 0), at(0, 1), at(1, 1))},
		{"a ring", ring, cells(at(0, 0)), cells(at(-1, -1), at(0, -1), at(1, -1), at(-1, 0), at(1, 0), at(-1, 1), at(0, 1), at(1, 1))},
		{"eight neighbours", api.Rule{Born: 256}, cells(at(-1, -1), at(0, -1), at(1, -1), at(-1, 0), at(1, 0), at(-1, 1), at(0, 1), at(1, 1)), cells(at(0, 0))},
		{"a block in the corner", life, cells(at(edge, edge), at(edge-1, edge), at(edge, edge-1), at(edge-1, edge-1)),
			cells(at(edge-1, edge-1), at(edge, edge-1), at(edge-1, edge), at(edge, edge))},
		{"up to the edges", flood, cells(at(edge-1, 1-edge)), cells(
			at(edge-2, -edge), at(edge-1, -edge), at(edge, -edge),
			at(edge-2, 1-edge), at(edge-1, 1-edge), at(edge, 1-edge),
			at(edge-2, 2-edge), at(edge-1, 2-edge), at(edge, 2-edge))},
	} {
		got, e := rule.Next(s.r, s.l)
		want(t, s.name, got, e, s.wanted)
	}
}

// slowNext asks of every place of a small field whether it lives next.
func slowNext(r api.Rule, l []api.Cell, size int) []api.Cell {
	var next []api.Cell
	for y := -size; y <= size; y++ {
		for x := -size; x <= size; x++ {
			n := 0
			for dy := -1; dy <= 1; dy++ {
				for dx := -1; dx <= 1; dx++ {
					if (dx != 0 || dy != 0) && slices.Contains(l, at(x+dx, y+dy)) {
						n++
					}
				}
			}
			bits := r.Born
			if slices.Contains(l, at(x, y)) {
				bits = r.Live
			}
			if bits&(1<<n) != 0 {
				next = append(next, at(x, y))
			}
		}
	}
	return next
}

func someCells(r *rand.Rand, size, most int) []api.Cell {
	l := make([]api.Cell, r.Intn(most+1))
	for i := range l {
		l[i] = at(r.Intn(2*size+1)-size, r.Intn(2*size+1)-size)
	}
	return l
}

func TestNextByHand(t *testing.T) {
	r := rand.New(rand.NewSource(2))
	for range 1000 {
		of := api.Rule{Born: 2 * r.Intn(256), Live: r.Intn(512)}
		l := someCells(r, 3, 40)
		got, e := rule.Next(of, l)
		want(t, "Next", got, e, slowNext(of, l, 5))
	}
}

func TestNextLeavesThePlane(t *testing.T) {
	for _, c := range cells(at(edge, 0), at(-edge, 0), at(0, edge), at(0, -edge), at(edge, edge), at(-edge, -edge)) {
		got, e := rule.Next(ring, cells(c, at(0, 0)))
		refuse(t, "born out of the plane", got, e, api.ErrRange)
		got, e = rule.Next(still, cells(c))
		want(t, "staying at the edge", got, e, cells(c))
	}
	// The rod's middle stands at the edge: one of its ends would be beyond.
	got, e := rule.Next(life, cells(at(edge, -1), at(edge, 0), at(edge, 1)))
	refuse(t, "a rod turns at the edge", got, e, api.ErrRange)
}

func TestNextAtMaxCells(t *testing.T) {
	got, e := rule.Next(still, apart(0, 0, api.MaxCells))
	want(t, "MaxCells that stay", got, e, apart(0, 0, api.MaxCells))
	got, e = rule.Next(api.Rule{}, apart(0, 0, api.MaxCells))
	want(t, "MaxCells that die", got, e, nil)
	got, e = rule.Next(ring, apart(0, 0, api.MaxCells/8))
	if e != api.OK || len(got) != api.MaxCells {
		t.Errorf("just MaxCells: %d, error %d", len(got), e)
	}
	got, e = rule.Next(ring, append(apart(0, 0, api.MaxCells/8), at(0, 50)))
	refuse(t, "eight more than MaxCells", got, e, api.ErrFull)
	// All stay, and one is born within a ring: one more than MaxCells.
	around, _ := rule.Next(ring, cells(at(0, 50)))
	l := append(apart(0, 0, api.MaxCells-9), around...)
	fills := api.Rule{Born: 256, Live: 511}
	got, e = rule.Next(fills, l)
	if e != api.OK || len(got) != api.MaxCells {
		t.Errorf("MaxCells - 1, and one that is born: %d, error %d", len(got), e)
	}
	got, e = rule.Next(fills, append(l, at(0, 99)))
	refuse(t, "MaxCells, and one that is born", got, e, api.ErrFull)
	got, e = rule.Next(ring, apart(0, 0, api.MaxCells))
	refuse(t, "eight times MaxCells", got, e, api.ErrFull)
}

func TestNextTellsFullAheadOfRange(t *testing.T) {
	most := apart(0, 0, api.MaxCells/8)
	most[0] = at(0, edge)
	got, e := rule.Next(ring, most)
	refuse(t, "MaxCells, some of them beyond", got, e, api.ErrRange)
	got, e = rule.Next(ring, append(most, at(0, 50)))
	refuse(t, "more than MaxCells, some of them beyond", got, e, api.ErrFull)
	// Within the plane are 511*8 and twice 3 cells: those beyond make them too many.
	most = append(apart(0, 0, api.MaxCells/8-1), at(edge, edge), at(-edge, edge))
	got, e = rule.Next(ring, most)
	refuse(t, "more than MaxCells by those beyond", got, e, api.ErrFull)
}

func TestNextTellsTheRuleFirstThenTheList(t *testing.T) {
	for _, r := range badRules() {
		got, e := rule.Next(r, nil)
		refuse(t, "no rule, no cells", got, e, api.ErrKind)
		got, e = rule.Next(r, cells(at(0, 0)))
		refuse(t, "no rule, a cell", got, e, api.ErrKind)
		for _, s := range badLists() {
			got, e = rule.Next(r, s.l)
			refuse(t, "no rule, "+s.name, got, e, api.ErrKind)
		}
	}
	for _, s := range badLists() {
		for _, r := range []api.Rule{{}, life, still, ring} {
			got, e := rule.Next(r, s.l)
			refuse(t, s.name, got, e, s.e)
		}
	}
	far := apart(0, 0, api.MaxCells)
	far[9] = at(0, api.MaxCoord)
	got, e := rule.Next(ring, far)
	refuse(t, "a list too far that would become too many", got, e, api.ErrRange)
}

// P2.5

func glider(x, y int) []api.Cell {
	return cells(at(x+1, y), at(x+2, y+1), at(x, y+2), at(x+1, y+2), at(x+2, y+2))
}

func TestRun(t *testing.T) {
	rod, turned := cells(at(5, 0), at(6, 0), at(7, 0)), cells(at(6, -1), at(6, 0), at(6, 1))
	mixed := cells(at(7, 0), at(5, 0), at(6, 0), at(5, 0))
	for _, s := range []struct {
		name      string
		r         api.Rule
		l         []api.Cell
		n         int
		wanted    []api.Cell
		wantedErr api.Errno
	}{
		{"no step is Tidy", api.Rule{}, mixed, 0, rod, api.OK},
		{"no step of nothing", life, nil, 0, nil, api.OK},
		{"one step", life, mixed, 1, turned, api.OK},
		{"two steps", life, mixed, 2, rod, api.OK},
		{"an odd number", life, rod, api.MaxRun - 1, turned, api.OK},
		{"MaxRun steps", life, rod, api.MaxRun, rod, api.OK},
		{"a glider by 4", life, glider(0, 0), 4, glider(1, 1), api.OK},
		{"a glider by MaxRun", life, glider(-9, 7), api.MaxRun, glider(api.MaxRun/4-9, api.MaxRun/4+7), api.OK},
		{"MaxRun steps of nothing", life, nil, api.MaxRun, nil, api.OK},
		{"cells that die at once", life, cells(at(edge, edge)), api.MaxRun, nil, api.OK},
		{"one step too many", life, nil, api.MaxRun + 1, nil, api.ErrRange},
		{"a step back", life, nil, -1, nil, api.ErrRange},
		{"the most steps", life, rod, math.MaxInt, nil, api.ErrRange},
		{"the fewest steps", life, rod, math.MinInt, nil, api.ErrRange},
		{"the first step leaves the plane, the second comes back", life, cells(at(edge, -1), at(edge, 0), at(edge, 1)), 2, nil, api.ErrRange},
		{"the second step leaves the plane", flood, cells(at(edge-1, 0)), 2, nil, api.ErrRange},
		{"a step short of leaving", life, glider(edge-2-10, 0), 40, glider(edge-2, 10), api.OK},
		{"a glider leaves the plane", life, glider(edge-2, 0), 4, nil, api.ErrRange},
		{"a cell grows too many", ring, cells(at(0, 0)), api.MaxRun, nil, api.ErrFull},
	} {
		got, e := rule.Run(s.r, s.l, s.n)
		if s.wantedErr != api.OK {
			refuse(t, s.name, got, e, s.wantedErr)
			continue
		}
		want(t, s.name, got, e, s.wanted)
	}
}

func TestRunByHand(t *testing.T) {
	r := rand.New(rand.NewSource(3))
	for range 200 {
		of := api.Rule{Born: 2 * r.Intn(256), Live: r.Intn(512)}
		l := someCells(r, 3, 30)
		wanted, _ := plane.Tidy(l)
		for n := range 6 {
			got, e := rule.Run(of, l, n)
			want(t, "Run", got, e, wanted)
			wanted = slowNext(of, wanted, 10)
		}
	}
}

func TestRunTakesMaxRunStepsOfMaxCells(t *testing.T) {
	got, e := rule.Run(still, apart(0, 0, api.MaxCells), api.MaxRun)
	want(t, "MaxCells that stay", got, e, apart(0, 0, api.MaxCells))
}

// TestRunTellsTheFirstErrorOnTheWay has cells that leave the plane at a step
// before, and at a step after, the one at which there are too many.
func TestRunTellsTheFirstErrorOnTheWay(t *testing.T) {
	many := apart(0, 0, api.MaxCells/9)
	got, e := rule.Run(flood, many, 1)
	if e != api.OK || len(got) != 9*len(many) {
		t.Fatalf("one step: %d cells, error %d", len(got), e)
	}
	got, e = rule.Run(flood, many, 2)
	refuse(t, "too many at the second step", got, e, api.ErrFull)
	far := slices.Concat(many[1:], cells(at(0, edge)))
	got, e = rule.Run(flood, far, 2)
	refuse(t, "too far at the first step, too many at the second", got, e, api.ErrRange)
	near := slices.Concat(many[1:], cells(at(0, edge-2)))
	got, e = rule.Run(flood, near, 3)
	refuse(t, "too many at the second step, too far at the third", got, e, api.ErrFull)
}

func TestRunTellsTheStepsThenTheRuleThenTheList(t *testing.T) {
	for _, n := range []int{-1, api.MaxRun + 1, math.MaxInt, math.MinInt} {
		for _, s := range badLists() {
			got, e := rule.Run(life, s.l, n)
			refuse(t, "steps, "+s.name, got, e, api.ErrRange)
			got, e = rule.Run(api.Rule{Born: 1}, s.l, n)
			refuse(t, "steps, no rule, "+s.name, got, e, api.ErrRange)
		}
		got, e := rule.Run(api.Rule{Born: 1}, nil, n)
		refuse(t, "steps, no rule", got, e, api.ErrRange)
	}
	for _, n := range []int{0, 1, api.MaxRun} {
		for _, r := range badRules() {
			got, e := rule.Run(r, cells(at(0, 0)), n)
			refuse(t, "no rule", got, e, api.ErrKind)
			for _, s := range badLists() {
				got, e = rule.Run(r, s.l, n)
				refuse(t, "no rule, "+s.name, got, e, api.ErrKind)
			}
		}
		for _, s := range badLists() {
			got, e := rule.Run(life, s.l, n)
			refuse(t, s.name, got, e, s.e)
		}
	}
}

// What holds everywhere: lists.

func scribble(l []api.Cell) {
	l = l[:cap(l)]
	for i := range l {
		l[i] = at(-77, -77)
	}
}

func answers(l []api.Cell) map[string][]api.Cell {
	m := map[string][]api.Cell{}
	m["Next"], _ = rule.Next(life, l)
	m["Next of what stays"], _ = rule.Next(still, l)
	m["Run by none"], _ = rule.Run(life, l, 0)
	m["Run by one"], _ = rule.Run(still, l, 1)
	m["Run by more"], _ = rule.Run(still, l, 5)
	rule.Next(api.Rule{Born: 1}, l)
	rule.Run(life, l, -1)
	return m
}

// lent is memory of which a list is a part, with spare room behind it.
func lent(tidy bool) []api.Cell {
	all := cells(at(6, 0), at(5, 0), at(7, 0), at(6, 0), at(9, 9), at(8, 8), at(7, 7), at(6, 6))
	if tidy {
		copy(all, cells(at(5, 0), at(6, 0), at(7, 0), at(0, 1)))
	}
	return all
}

func TestListsHandedInStayAsTheyAre(t *testing.T) {
	for _, tidy := range []bool{false, true} {
		all := lent(tidy)
		given := answers(all[:4])
		untouched := answers(lent(tidy)[:4])
		if !slices.Equal(all, lent(tidy)) {
			t.Fatalf("handed in %v, left behind %v", lent(tidy), all)
		}
		for name, l := range given {
			scribble(l)
			if !slices.Equal(all, lent(tidy)) {
				t.Errorf("%s shares memory with what was handed in", name)
			}
			for other, o := range answers(all[:4]) {
				if !slices.Equal(o, untouched[other]) {
					t.Errorf("%s shares memory with a later %s", name, other)
				}
			}
		}
		given = answers(all[:4])
		scribble(all)
		for name, l := range given {
			if !slices.Equal(l, untouched[name]) {
				t.Errorf("%s changes with what was handed in", name)
			}
		}
	}
}

// TestNextDoesNotHangOnTheMapsOrder asks again and again, of the list in any order.
func TestNextDoesNotHangOnTheMapsOrder(t *testing.T) {
	r := rand.New(rand.NewSource(4))
	l := someCells(r, 20, 400)
	first, e := rule.Next(life, l)
	for range 50 {
		r.Shuffle(len(l), func(i, j int) { l[i], l[j] = l[j], l[i] })
		got, again := rule.Next(life, l)
		if e != again {
			t.Fatalf("errors %d and %d", e, again)
		}
		want(t, "again", got, again, first)
	}
}
