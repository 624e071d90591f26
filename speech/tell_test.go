package speech_test

import (
	"math"
	"slices"
	"strconv"
	"testing"

	"lifelodge/api"
	"lifelodge/rle"
	"lifelodge/speech"
)

func wantTold(t *testing.T, verb int, a api.Answer, wanted string) {
	t.Helper()
	if got, e := speech.Tell(verb, a); e != api.OK || got != wanted {
		t.Errorf("Tell(%d, %v): %q, error %d; want %q", verb, a, got, e, wanted)
	}
}

func refuseTell(t *testing.T, verb int, a api.Answer, wanted api.Errno) {
	t.Helper()
	if got, e := speech.Tell(verb, a); e != wanted || got != "" {
		t.Errorf("Tell(%d, code %d, rule %v, %d cells): %.80q, error %d; want error %d", verb, a.Code, a.Rule, len(a.Cells), got, e, wanted)
	}
}

// full is an answer with something in each field.
func full() api.Answer {
	return api.Answer{N: 7, Box: api.Box{X0: 1, Y0: -2, X1: 3, Y1: 4}, Rule: life, Key: "!k1", Cells: cells(at(5, 6), at(6, 6))}
}

// P8.5

func TestTellEachVerb(t *testing.T) {
	for verb, wanted := range []string{
		0:             "ok",
		api.VerbNew:   "ok",
		api.VerbSet:   "ok",
		api.VerbGet:   "at 5 6\nx = 2, y = 1, rule = B3/S23\n2o!\n",
		api.VerbStep:  "ok",
		api.VerbCount: "count 7",
		api.VerbBox:   "box 1 -2 3 4",
		api.VerbDrop:  "ok",
		api.VerbCopy:  "ok",
		api.VerbLease: "key !k1",
		api.VerbClean: "count 7",
	} {
		wantTold(t, verb, full(), wanted)
	}
}

func TestTellEmptyAnswers(t *testing.T) {
	for verb, wanted := range []string{"ok", "ok", "ok", "none\nx = 0, y = 0, rule = B/S\n!\n", "ok", "count 0", "none", "ok", "ok", "key ", "count 0"} {
		wantTold(t, verb, api.Answer{}, wanted)
		wantTold(t, verb, api.Answer{Cells: []api.Cell{}}, wanted)
	}
}

// TestTellNo: of a Code that is not OK nothing else is told, and nothing else is asked.
func TestTellNo(t *testing.T) {
	codes := []api.Errno{12, 13, 99, -1, -2, math.MaxInt, math.MinInt}
	for code := api.ErrLong; code <= api.ErrState; code++ {
		codes = append(codes, code)
	}
	for verb := range 11 {
		for _, code := range codes {
			wanted := "no " + strconv.Itoa(int(code))
			wantTold(t, verb, api.Answer{Code: code}, wanted)
			a := full()
			a.Code = code
			wantTold(t, verb, a, wanted)
			wantTold(t, verb, api.Answer{Code: code, Rule: api.Rule{Born: 1}}, wanted)
			wantTold(t, verb, api.Answer{Code: code, Cells: cells(at(api.MaxCoord, 0))}, wanted)
			wantTold(t, verb, api.Answer{Code: code, Cells: make([]api.Cell, api.MaxCells+1)}, wanted)
		}
	}
}

func TestTellOtherVerbs(t *testing.T) {
	for _, verb := range []int{-1, -2, 11, 12, 64, 256, 1 << 32, math.MaxInt, math.MinInt} {
		refuseTell(t, verb, api.Answer{}, api.ErrKind)
		refuseTell(t, verb, full(), api.ErrKind)
		for code := api.ErrLong; code <= api.ErrState; code++ {
			refuseTell(t, verb, api.Answer{Code: code}, api.ErrKind)
		}
		refuseTell(t, verb, api.Answer{Rule: api.Rule{Born: 1}}, api.ErrKind)
	}
}

func TestTellCounts(t *testing.T) {
	for _, n := range []int{0, 1, -1, 10, 4096, 200000, math.MaxInt, math.MinInt} {
		wantTold(t, api.VerbCount, api.Answer{N: n}, "count "+strconv.Itoa(n))
		wantTold(t, api.VerbClean, api.Answer{N: n}, "count "+strconv.Itoa(n))
		wantTold(t, api.VerbStep, api.Answer{N: n}, "ok")
		wantTold(t, 0, api.Answer{N: n}, "ok")
	}
}

func TestTellBoxes(t *testing.T) {
	box := api.Box{X0: math.MinInt, Y0: math.MaxInt, X1: 0, Y1: -1}
	wantTold(t, api.VerbBox, api.Answer{N: 0, Box: box}, "none")
	for _, n := range []int{1, 2, -1, math.MaxInt, math.MinInt} {
		wantTold(t, api.VerbBox, api.Answer{N: n, Box: box}, "box -9223372036854775808 9223372036854775807 0 -1")
		wantTold(t, api.VerbBox, api.Answer{N: n}, "box 0 0 0 0")
	}
	wantTold(t, api.VerbBox, api.Answer{N: 1, Box: api.Box{X0: 1, Y0: -1, X1: 1, Y1: 1}}, "box 1 -1 1 1")
}

// TestTellKeys: a key is told as it stands, whatever it is.
func TestTellKeys(t *testing.T) {
	for _, key := range []string{"", "!a", longKey, "a", "no key", " ", "\n", "\x00\xff", longKey + longKey} {
		wantTold(t, api.VerbLease, api.Answer{Key: key}, "key "+key)
		wantTold(t, api.VerbCopy, api.Answer{Key: key}, "ok")
	}
}

func TestTellPatterns(t *testing.T) {
	const far = api.MaxCoord - 1
	for _, s := range []struct {
		name   string
		l      []api.Cell
		r      api.Rule
		wanted string
	}{
		{"no cells", nil, life, "none\nx = 0, y = 0, rule = B3/S23\n!\n"},
		{"a cell at 0, 0", cells(at(0, 0)), life, "at 0 0\nx = 1, y = 1, rule = B3/S23\no!\n"},
		{"in order", cells(at(-3, 4), at(-2, 4)), api.Rule{Born: 8}, "at -3 4\nx = 2, y = 1, rule = B3/S\n2o!\n"},
		{"not in order", cells(at(-2, 4), at(-3, 4)), api.Rule{Born: 8}, "at -3 4\nx = 2, y = 1, rule = B3/S\n2o!\n"},
		{"one twice", cells(at(9, 9), at(9, 9)), api.Rule{}, "at 9 9\nx = 1, y = 1, rule = B/S\no!\n"},
		{"a corner without a cell", cells(at(1, 0), at(2, 1), at(0, 2), at(1, 2), at(2, 2)), life, "at 0 0\nx = 3, y = 3, rule = B3/S23\nbo$2bo$3o!\n"},
		{"a corner without a cell, not in order", cells(at(2, -7), at(5, -9)), life, "at 2 -9\nx = 4, y = 3, rule = B3/S23\n3bo2$o!\n"},
		{"from edge to edge", cells(at(far, far), at(-far, -far)), api.Rule{Live: 1}, "at -1099511627775 -1099511627775\nx = 2199023255551, y = 2199023255551, rule = B/S0\no2199023255550$2199023255550bo!\n"},
	} {
		wantTold(t, api.VerbGet, api.Answer{Rule: s.r, Cells: s.l}, s.wanted)
		// How many there are is not told, nor a box.
		wantTold(t, api.VerbGet, api.Answer{Rule: s.r, Cells: s.l, N: 99, Key: "!a", Box: api.Box{X0: 77}}, s.wanted)
	}
}

func TestTellManyCells(t *testing.T) {
	var l []api.Cell
	for n := range api.MaxCells {
		l = append(l, at(n*37%4099-5000, n*11%17))
	}
	text, e := rle.Encode(l, life)
	if e != api.OK {
		t.Fatalf("Encode: error %d", e)
	}
	wantTold(t, api.VerbGet, api.Answer{Rule: life, Cells: l}, "at -5000 0\n"+text)
}

func TestTellEncodesErrors(t *testing.T) {
	for _, s := range []struct {
		l []api.Cell
		r api.Rule
		e api.Errno
	}{
		{nil, api.Rule{Born: 1}, api.ErrRange},
		{nil, api.Rule{Live: 512}, api.ErrRange},
		{nil, api.Rule{Born: -2}, api.ErrRange},
		{cells(at(0, 0)), api.Rule{Born: 511}, api.ErrRange},
		{cells(at(api.MaxCoord, 0)), life, api.ErrRange},
		{cells(at(0, -api.MaxCoord)), life, api.ErrRange},
		{cells(at(0, 0), at(math.MinInt, math.MaxInt)), life, api.ErrRange},
		{make([]api.Cell, api.MaxCells+1), life, api.ErrFull},
		{make([]api.Cell, api.MaxCells+1), api.Rule{Born: 1}, api.ErrFull},
	} {
		a := api.Answer{Rule: s.r, Cells: s.l, N: 1}
		refuseTell(t, api.VerbGet, a, s.e)
		// Only a get tells cells and a rule.
		wantTold(t, api.VerbSet, a, "ok")
		wantTold(t, api.VerbNew, a, "ok")
		wantTold(t, 0, a, "ok")
		wantTold(t, api.VerbCount, a, "count 1")
		wantTold(t, api.VerbBox, a, "box 0 0 0 0")
	}
}

func TestTellLeavesItsCells(t *testing.T) {
	all := cells(at(3, 3), at(1, 1), at(2, 2), at(1, 1), at(9, 9), at(8, 8))
	given := slices.Clone(all)
	for verb := range 11 {
		if _, e := speech.Tell(verb, api.Answer{Rule: life, Cells: given[:4]}); e != api.OK {
			t.Errorf("Tell(%d): error %d", verb, e)
		}
	}
	if !slices.Equal(given, all) {
		t.Errorf("handed in %v, left behind %v", all, given)
	}
}
