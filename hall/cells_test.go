package hall_test

import (
	"math"
	"slices"
	"testing"

	"lifelodge/api"
)

// P10.4: set

func TestSet(t *testing.T) {
	g := alone(t)
	g.ok(found("a", life), set("a", rod()...))
	g.holds("a", life, rod())
	g.ok(set("a", at(1, 0), at(-5, 7), at(1, 0)))
	g.holds("a", life, append(rod(), at(-5, 7)))
	g.ok(set("a", at(-5, 7)), set("a"), set("a", []api.Cell{}...))
	g.holds("a", life, append(rod(), at(-5, 7)))
	g.ok(set("a", at(edge, -edge), at(-edge, edge), at(edge, edge), at(-edge, -edge)))
	g.holds("a", life, append(rod(), at(-5, 7), at(edge, -edge), at(-edge, edge), at(edge, edge), at(-edge, -edge)))
}

func TestSetNothing(t *testing.T) {
	g := alone(t)
	g.ok(found("a", life), set("a"))
	g.holds("a", life, nil)
	had := g.a.Count(mine)
	g.limit(0)
	g.ok(set("a"))
	if g.a.Count(mine) != had {
		t.Errorf("%d things became %d", had, g.a.Count(mine))
	}
}

// Whatever a tenant may have, cells that live may be told to live.
func TestSetWhatLives(t *testing.T) {
	g := alone(t)
	g.ok(found("a", life), set("a", glider()...))
	g.limit(0)
	g.ok(set("a", glider()...), set("a", glider()[2], glider()[2]))
	g.holds("a", life, glider())
}

func TestSetRefuses(t *testing.T) {
	g := alone(t)
	g.ok(found("a", life), set("a", rod()...))
	tooMany := make([]api.Cell, api.MaxCells+1)
	far := slices.Clone(tooMany)
	far[7] = at(api.MaxCoord, 0)
	k := g.key("a", write)
	for _, p := range []string{"a", k} {
		g.no(set(p, tooMany...), api.ErrFull)
		g.no(set(p, far...), api.ErrFull)
		g.no(set(p, field(0, 0, api.MaxCells+1, 1)...), api.ErrFull)
		for _, c := range cells(at(api.MaxCoord, 0), at(-api.MaxCoord, 0), at(0, api.MaxCoord), at(0, -api.MaxCoord),
			at(math.MaxInt, 0), at(0, math.MinInt)) {
			g.no(set(p, c), api.ErrRange)
			g.no(set(p, at(5, 5), c, at(6, 6)), api.ErrRange)
		}
	}
	g.limit(0)
	g.no(set("a", tooMany...), api.ErrFull)
	g.no(set("a", at(9, 9), at(api.MaxCoord, 0)), api.ErrRange)
}

// A list has MaxCells cells at most, but a universe may have more.
func TestSetMoreThanAListHas(t *testing.T) {
	g := alone(t)
	l := field(-32, -32, 64, 64)
	g.ok(found("a", still), set("a", l...))
	g.holds("a", still, l)
	g.ok(set("a", l[0], l[17]))
	g.holds("a", still, l)
	g.ok(set("a", at(100, 100)))
	g.no(get("a"), api.ErrFull)
	g.want(count("a"), api.Answer{N: api.MaxCells + 1, Rule: still})
	g.want(box("a"), api.Answer{N: 1, Rule: still, Box: api.Box{X0: -32, Y0: -32, X1: 100, Y1: 100}})
	g.ok(set("a", field(32, -32, 64, 64)...))
	g.want(count("a"), api.Answer{N: 2*api.MaxCells + 1, Rule: still})
	g.ok(step("a", 1000))
	g.want(count("a"), api.Answer{N: 2*api.MaxCells + 1, Rule: still})
}

// What set makes is what the universe is made of then: it is little, however many cells there are.
func TestSetMakesJustTheUniverse(t *testing.T) {
	for _, l := range [][]api.Cell{rod(), field(-9, 5, 40, 40), cells(at(edge, 0)), cells(at(-edge, 7), at(3, edge)), cells(at(100, -1))} {
		g := alone(t)
		g.ok(found("a", life), double("a", "b"), set("a", glider()...), double("a", "c"), set("a", l...))
		g.want(clean(), api.Answer{})
	}
}

// P10.4: step

func TestStepSmall(t *testing.T) {
	g := alone(t)
	g.ok(found("a", life), set("a", rod()...))
	turned := cells(at(1, -1), at(1, 0), at(1, 1))
	g.ok(step("a", 0))
	g.holds("a", life, rod())
	g.ok(step("a", 1))
	g.holds("a", life, turned)
	g.ok(step("a", 2))
	g.holds("a", life, turned)
	g.ok(step("a", 1))
	g.holds("a", life, rod())
}

func TestStepAgainstSlowSteps(t *testing.T) {
	for _, r := range []api.Rule{life, flood, still, {}, {Born: 2, Live: 0}, {Born: 4, Live: 12}, {Born: 72, Live: 12}, {Born: 8, Live: 1}} {
		for _, l := range [][]api.Cell{nil, rod(), glider(), cells(at(100, -100)), cells(at(-1, -1), at(0, 0), at(-1, 0), at(9, 9))} {
			g := alone(t)
			g.ok(found("a", r), set("a", l...))
			for _, n := range []int{1, 2, 3, 5} {
				g.ok(step("a", n))
				for range n {
					l = slowNext(r, l)
				}
				g.holds("a", r, l)
			}
		}
	}
}

func TestStepFar(t *testing.T) {
	g := alone(t)
	g.ok(found("a", life), set("a", glider()...), step("a", 4000000))
	var moved []api.Cell
	for _, c := range glider() {
		moved = append(moved, at(c.X+1000000, c.Y+1000000))
	}
	g.holds("a", life, moved)
	g.ok(step("a", api.MaxSteps))
	for i := range moved {
		moved[i] = at(moved[i].X+api.MaxSteps/4, moved[i].Y+api.MaxSteps/4)
	}
	g.holds("a", life, moved)
}

func TestStepNumbers(t *testing.T) {
	for _, l := range [][]api.Cell{nil, cells(at(0, 0)), rod()} {
		g := alone(t)
		g.ok(found("a", life), set("a", l...))
		for _, n := range []int{-1, -2, api.MaxSteps + 1, api.MaxSteps * 2, math.MinInt, math.MaxInt, math.MaxInt - 5} {
			g.no(step("a", n), api.ErrRange)
		}
		for _, n := range []int{0, 1, api.MaxSteps - 1, api.MaxSteps} {
			g.ok(step("a", n))
		}
	}
}

// Without cells there is no box that could come too far; nothing comes of nothing.
func TestStepOfNoCells(t *testing.T) {
	for _, r := range []api.Rule{life, flood, still, {}, {Born: 510}, {Live: 1}} {
		g := alone(t)
		g.ok(found("a", r))
		for _, n := range []int{0, 1, 2, 1000, api.MaxSteps} {
			g.ok(step("a", n))
			g.holds("a", r, nil)
		}
		// All cells die at once.
		g.ok(found("b", api.Rule{}), set("b", at(edge-1, 0)), step("b", 1))
		g.ok(step("b", api.MaxSteps))
		g.holds("b", api.Rule{}, nil)
	}
}

// sides are a cell as far as asked on each side, alone, and with another one at its other end.
func sides(far int) [][]api.Cell {
	return [][]api.Cell{
		cells(at(far, 0)), cells(at(-far, 0)), cells(at(0, far)), cells(at(0, -far)),
		cells(at(far, 3), at(-3, -3)), cells(at(-far, 3), at(3, -3)), cells(at(3, far), at(3, -3)), cells(at(3, -far), at(3, 3)),
		cells(at(far, far)), cells(at(-far, -far)), cells(at(far, -far), at(-far, far)),
	}
}

func TestStepNearTheEdge(t *testing.T) {
	for _, n := range []int{1, 2, 77, 1 << 20, api.MaxSteps} {
		for i, l := range sides(edge - n) {
			g := alone(t)
			g.ok(found("a", still), set("a", l...))
			g.no(step("a", n+1), api.ErrRange)
			g.ok(step("a", n))
			g.holds("a", still, l)
			g.ok(found("b", still), set("b", sides(edge - n + 1)[i]...))
			g.no(step("b", n), api.ErrRange)
			g.ok(step("b", n-1), step("b", 0))
			g.holds("b", still, sides(edge - n + 1)[i])
		}
	}
	for _, l := range sides(edge) {
		g := alone(t)
		g.ok(found("a", life), set("a", l...))
		g.no(step("a", 1), api.ErrRange)
		g.no(step("a", api.MaxSteps), api.ErrRange)
		g.ok(step("a", 0))
		g.holds("a", life, l)
	}
}

// Cells that go as far as they can come to the edge, and no farther.
func TestStepToTheEdge(t *testing.T) {
	for _, far := range sides(edge - 3) {
		l := far[:1]
		g := alone(t)
		g.ok(found("a", flood), set("a", l...), step("a", 3))
		c := l[0]
		g.holds("a", flood, field(c.X-3, c.Y-3, 7, 7))
		g.no(step("a", 1), api.ErrRange)
		g.ok(step("a", 0))
	}
}

// Where it is both, a number that is none and a tenant that may have too little, the number is told.
func TestStepQuotaComesLast(t *testing.T) {
	g := alone(t)
	g.ok(found("a", life), set("a", at(edge-5, 0)))
	g.limit(0)
	g.no(step("a", -1), api.ErrRange)
	g.no(step("a", api.MaxSteps+1), api.ErrRange)
	g.no(step("a", 6), api.ErrRange)
	g.no(step("a", 5), api.ErrQuota)
	g.ok(step("a", 0))
}

// P10.4: get, count, box

func TestLookAtCells(t *testing.T) {
	for _, r := range []api.Rule{life, {}, flood} {
		g := alone(t)
		g.ok(found("a", r))
		g.want(get("a"), api.Answer{Rule: r})
		g.want(count("a"), api.Answer{Rule: r})
		g.want(box("a"), api.Answer{Rule: r})
		g.ok(set("a", at(0, 0)))
		g.want(get("a"), api.Answer{Rule: r, N: 1, Cells: cells(at(0, 0))})
		g.want(count("a"), api.Answer{Rule: r, N: 1})
		g.want(box("a"), api.Answer{Rule: r, N: 1})
		g.ok(set("a", at(7, -3), at(-2, 5), at(7, -4)))
		g.want(get("a"), api.Answer{Rule: r, N: 4, Cells: cells(at(7, -4), at(7, -3), at(0, 0), at(-2, 5))})
		g.want(count("a"), api.Answer{Rule: r, N: 4})
		g.want(box("a"), api.Answer{Rule: r, N: 1, Box: api.Box{X0: -2, Y0: -4, X1: 7, Y1: 5}})
	}
}

// Looking makes nothing, and may be done with whatever one may have.
func TestLookingCostsNothing(t *testing.T) {
	g := alone(t)
	g.ok(found("a", life), set("a", glider()...), set("a", at(edge, edge)), found("b", life))
	had := g.a.Count(mine)
	g.limit(0)
	g.holds("a", life, append(glider(), at(edge, edge)))
	g.holds("b", life, nil)
	if g.a.Count(mine) != had {
		t.Errorf("%d things became %d", had, g.a.Count(mine))
	}
}

// A flood of MaxSteps steps has more cells than can be told.
func TestCountAroundItsBound(t *testing.T) {
	const most = api.MaxSteps - 1
	side := 2*most + 1
	g := alone(t)
	g.ok(found("a", flood), set("a", at(0, 0)), step("a", most))
	g.want(count("a"), api.Answer{N: side * side, Rule: flood})
	g.want(box("a"), api.Answer{N: 1, Rule: flood, Box: api.Box{X0: -most, Y0: -most, X1: most, Y1: most}})
	g.no(get("a"), api.ErrFull)
	// A side more, and it is 2^31 wide and high.
	g.ok(found("b", flood), set("b", field(0, 0, 2, 2)...), step("b", most))
	g.no(count("b"), api.ErrFull)
	g.no(get("b"), api.ErrFull)
	g.want(box("b"), api.Answer{N: 1, Rule: flood, Box: api.Box{X0: -most, Y0: -most, X1: most + 1, Y1: most + 1}})
	g.ok(step("a", 1))
	g.no(count("a"), api.ErrFull)
	g.ok(found("c", flood), set("c", field(0, 0, 2, 1)...), step("c", most))
	g.want(count("c"), api.Answer{N: side * (side + 1), Rule: flood})
}

func TestGetMaxCells(t *testing.T) {
	g := alone(t)
	g.ok(found("a", flood), set("a", field(0, 0, 62, 62)...), step("a", 1))
	g.holds("a", flood, field(-1, -1, 64, 64))
	g.ok(step("a", 1))
	g.no(get("a"), api.ErrFull)
	g.want(count("a"), api.Answer{N: 66 * 66, Rule: flood})
}
