package speech_test

import (
	"math"
	"math/rand"
	"regexp"
	"slices"
	"strconv"
	"strings"
	"testing"

	"lifelodge/api"
	"lifelodge/speech"
)

var (
	isNum   = regexp.MustCompile(`\A` + numForm + `\z`)
	isName  = regexp.MustCompile(`\A` + nameForm + `\z`)
	isPlace = regexp.MustCompile(`\A` + placeForm + `\z`)
)

func wantLine(t *testing.T, q api.Request, wanted string) {
	t.Helper()
	if got, e := speech.Write(q); e != api.OK || got != wanted {
		t.Errorf("Write(%v): %q, error %d; want %q", q, got, e, wanted)
	}
}

func refuseWrite(t *testing.T, q api.Request, wanted api.Errno) {
	t.Helper()
	if got, e := speech.Write(q); e != wanted || got != "" {
		t.Errorf("Write of verb %d, name %.20q, other %.20q, rule %v, N %d, %d cells: %.80q, error %d; want error %d", q.Verb, q.Name, q.Other, q.Rule, q.N, len(q.Cells), got, e, wanted)
	}
}

// plainLine is what would be a request's line, fields in the table's order.
func plainLine(q api.Request) string {
	ruleText := ""
	if 0 <= q.Rule.Born && q.Rule.Born < 512 && q.Rule.Born%2 == 0 && 0 <= q.Rule.Live && q.Rule.Live < 512 {
		ruleText = "B" + bits(q.Rule.Born) + "/S" + bits(q.Rule.Live)
	}
	n := strconv.Itoa(q.N)
	switch q.Verb {
	case 1:
		return "new " + q.Name + " " + ruleText
	case 2:
		line := "set " + q.Name
		for _, c := range q.Cells {
			line += " " + strconv.Itoa(c.X) + "," + strconv.Itoa(c.Y)
		}
		return line
	case 3:
		return "get " + q.Name
	case 4:
		return "step " + q.Name + " " + n
	case 5:
		return "count " + q.Name
	case 6:
		return "box " + q.Name
	case 7:
		return "drop " + q.Name
	case 8:
		return "copy " + q.Name + " " + q.Other
	case 9:
		return "lease " + q.Name + " " + n
	}
	return "clean"
}

// untold is whether anything is left of a request without the fields that its line tells.
func untold(q api.Request) bool {
	if q.Verb != api.VerbClean {
		q.Name = ""
	}
	switch q.Verb {
	case api.VerbNew:
		q.Rule = api.Rule{}
	case api.VerbSet:
		q.Cells = nil
	case api.VerbStep, api.VerbLease:
		q.N = 0
	case api.VerbCopy:
		q.Other = ""
	}
	q.Verb = 0
	return !equal(q, api.Request{})
}

// badField is whether a field that the line tells can't stand there.
func badField(q api.Request) bool {
	switch q.Verb {
	case 1:
		r := q.Rule
		return !isName.MatchString(q.Name) || r.Born != r.Born&510 || r.Live != r.Live&511
	case 2:
		far := func(c api.Cell) bool {
			return !isNum.MatchString(strconv.Itoa(c.X)) || !isNum.MatchString(strconv.Itoa(c.Y))
		}
		return !isPlace.MatchString(q.Name) || slices.ContainsFunc(q.Cells, far)
	case 3, 5, 6:
		return !isPlace.MatchString(q.Name)
	case 4:
		return !isPlace.MatchString(q.Name) || !isNum.MatchString(strconv.Itoa(q.N))
	case 7:
		return !isName.MatchString(q.Name)
	case 8:
		return !isPlace.MatchString(q.Name) || !isName.MatchString(q.Other)
	case 9:
		return !isName.MatchString(q.Name) || !isNum.MatchString(strconv.Itoa(q.N))
	}
	return false
}

// slowWrite asks each field alone.
func slowWrite(q api.Request) (string, api.Errno) {
	if q.Verb < 1 || q.Verb > 10 {
		return "", api.ErrKind
	}
	line := plainLine(q)
	switch {
	case len(line) > api.MaxLine:
		return "", api.ErrLong
	case badField(q) || untold(q):
		return "", api.ErrForm
	}
	return line, api.OK
}

// good is a request of each verb whose fields are all good.
func good() []api.Request {
	return []api.Request{
		{Verb: api.VerbNew, Name: "a", Rule: life},
		{Verb: api.VerbSet, Name: "a", Cells: cells(at(1, 2), at(0, 0))},
		{Verb: api.VerbGet, Name: "a"},
		{Verb: api.VerbStep, Name: "a", N: 5},
		{Verb: api.VerbCount, Name: "a"},
		{Verb: api.VerbBox, Name: "a"},
		{Verb: api.VerbDrop, Name: "a"},
		{Verb: api.VerbCopy, Name: "a", Other: "b"},
		{Verb: api.VerbLease, Name: "a", N: 3},
		{Verb: api.VerbClean},
	}
}

// P8.4

func TestWriteEachVerb(t *testing.T) {
	lines := []string{"new a B3/S23", "set a 1,2 0,0", "get a", "step a 5", "count a", "box a", "drop a", "copy a b", "lease a 3", "clean"}
	for i, q := range good() {
		wantLine(t, q, lines[i])
	}
}

func TestWriteIsReadsOther(t *testing.T) {
	for line, q := range goodLines() {
		wantLine(t, q, line)
		read, _ := speech.Read(line)
		wantLine(t, read, line)
	}
}

func TestWriteOtherVerbs(t *testing.T) {
	for _, verb := range []int{0, -1, -2, -10, 11, 12, 64, 266, 1 << 32, 1<<32 + 3, math.MaxInt, math.MinInt} {
		refuseWrite(t, api.Request{Verb: verb}, api.ErrKind)
		refuseWrite(t, api.Request{Verb: verb, Name: "a"}, api.ErrKind)
		// The verb is told ahead of what else is wrong.
		refuseWrite(t, api.Request{Verb: verb, Name: strings.Repeat("A", api.MaxLine), N: math.MaxInt, Rule: api.Rule{Born: 1}}, api.ErrKind)
		refuseWrite(t, api.Request{Verb: verb, Cells: make([]api.Cell, api.MaxLine)}, api.ErrKind)
	}
}

func TestWriteNames(t *testing.T) {
	for _, q := range good()[:9] {
		byKey := slices.Contains([]int{api.VerbSet, api.VerbGet, api.VerbStep, api.VerbCount, api.VerbBox, api.VerbCopy}, q.Verb)
		for _, key := range []string{"!a", "!0", longKey} {
			q.Name = key
			if byKey {
				wantLine(t, q, plainLine(q))
			} else {
				refuseWrite(t, q, api.ErrForm)
			}
		}
		for _, name := range []string{"", " ", "A", "a1", "!", "!!", longer, longKey + "a", " a", "a ", "a b", "a  b", "a 0,0", "a 1", "a B3/S23", "a\n", "\x00", "\xff", "ä", "a,b"} {
			q.Name = name
			refuseWrite(t, q, api.ErrForm)
		}
	}
	for _, other := range []string{"", " ", "!a", "B", "b1", longer, " b", "b ", "b c", "\x00", "\xff"} {
		refuseWrite(t, api.Request{Verb: api.VerbCopy, Name: "a", Other: other}, api.ErrForm)
	}
}

// TestWriteNamesThatReadAsMore has lines that are good ones, but of other requests.
func TestWriteNamesThatReadAsMore(t *testing.T) {
	for _, q := range []api.Request{
		{Verb: api.VerbSet, Name: "a 0,0"},
		{Verb: api.VerbSet, Name: "a 0,0", Cells: cells(at(1, 1))},
		{Verb: api.VerbSet, Name: "a 0,0 1,1"},
	} {
		if _, e := speech.Read(plainLine(q)); e != api.OK {
			t.Fatalf("%q is no good line: error %d", plainLine(q), e)
		}
		refuseWrite(t, q, api.ErrForm)
	}
	// A rule that is none is told as nothing: the name must not stand in for it.
	refuseWrite(t, api.Request{Verb: api.VerbNew, Name: "a B3/S23", Rule: api.Rule{Born: 1}}, api.ErrForm)
	refuseWrite(t, api.Request{Verb: api.VerbCopy, Name: "a b"}, api.ErrForm)
}

func TestWriteRules(t *testing.T) {
	for _, r := range []api.Rule{
		{Born: 1}, {Born: 9, Live: 12}, {Born: 511, Live: 511}, {Born: 512}, {Born: 514}, {Born: -1}, {Born: -2}, {Live: -1}, {Live: 512}, {Born: 8, Live: 1023},
		{Born: math.MaxInt}, {Born: math.MinInt}, {Live: math.MaxInt}, {Live: math.MinInt},
	} {
		refuseWrite(t, api.Request{Verb: api.VerbNew, Name: "a", Rule: r}, api.ErrForm)
		refuseWrite(t, api.Request{Verb: api.VerbNew, Name: "", Rule: r}, api.ErrForm)
	}
	for born := 0; born < 512; born += 2 {
		r := api.Rule{Born: born, Live: 511 - born}
		wantLine(t, api.Request{Verb: api.VerbNew, Name: "a", Rule: r}, "new a B"+bits(born)+"/S"+bits(511-born))
	}
}

func TestWriteFieldsThatTheLineDoesNotTell(t *testing.T) {
	for _, q := range good() {
		for name, change := range map[string]func(*api.Request){
			"Name":        func(q *api.Request) { q.Name += "a" },
			"Other":       func(q *api.Request) { q.Other += "a" },
			"Born":        func(q *api.Request) { q.Rule.Born ^= 4 },
			"Live":        func(q *api.Request) { q.Rule.Live ^= 1 },
			"a bad Rule":  func(q *api.Request) { q.Rule.Born = 1 },
			"N":           func(q *api.Request) { q.N++ },
			"N below 0":   func(q *api.Request) { q.N = -1 },
			"a far N":     func(q *api.Request) { q.N = math.MaxInt },
			"Cells":       func(q *api.Request) { q.Cells = cells(at(0, 0)) },
			"many Cells":  func(q *api.Request) { q.Cells = make([]api.Cell, api.MaxLine) },
			"empty Cells": func(q *api.Request) { q.Cells = []api.Cell{} },
		} {
			changed := q
			change(&changed)
			wanted, e := slowWrite(changed)
			if e == api.OK {
				wantLine(t, changed, wanted)
				continue
			}
			refuseWrite(t, changed, e)
			if e != api.ErrForm && !(q.Verb == api.VerbSet && name == "many Cells") {
				t.Errorf("%s of verb %d: error %d", name, q.Verb, e)
			}
		}
	}
	refuseWrite(t, api.Request{Verb: api.VerbClean, Name: "a"}, api.ErrForm)
	refuseWrite(t, api.Request{Verb: api.VerbGet, Name: "a", N: 1}, api.ErrForm)
}

func TestWriteNumbers(t *testing.T) {
	for _, n := range goodNums() {
		text := strconv.Itoa(n)
		wantLine(t, api.Request{Verb: api.VerbStep, Name: "a", N: n}, "step a "+text)
		wantLine(t, api.Request{Verb: api.VerbLease, Name: "a", N: n}, "lease a "+text)
		wantLine(t, api.Request{Verb: api.VerbSet, Name: "a", Cells: cells(at(n, -n))}, "set a "+text+","+strconv.Itoa(-n))
	}
	for _, n := range []int{edge + 1, edge + 2, -edge - 1, -edge - 2, math.MaxInt, math.MinInt} {
		refuseWrite(t, api.Request{Verb: api.VerbStep, Name: "a", N: n}, api.ErrForm)
		refuseWrite(t, api.Request{Verb: api.VerbLease, Name: "a", N: n}, api.ErrForm)
		refuseWrite(t, api.Request{Verb: api.VerbSet, Name: "a", Cells: cells(at(n, 0))}, api.ErrForm)
		refuseWrite(t, api.Request{Verb: api.VerbSet, Name: "a", Cells: cells(at(0, n))}, api.ErrForm)
		refuseWrite(t, api.Request{Verb: api.VerbSet, Name: "a", Cells: cells(at(0, 0), at(0, n), at(0, 0))}, api.ErrForm)
	}
}

func TestWriteKeepsTheOrderOfCells(t *testing.T) {
	wantLine(t, api.Request{Verb: api.VerbSet, Name: "a", Cells: cells(at(3, 1), at(-2, 1), at(3, 1), at(0, -9))}, "set a 3,1 -2,1 3,1 0,-9")
}

func TestWriteAtMaxLine(t *testing.T) {
	line, q := fullLine(api.MaxLine - 2)
	wantLine(t, q, line)
	last := &q.Cells[len(q.Cells)-1]
	for _, s := range []struct {
		y    int
		much int
	}{{9, -2}, {10, -1}, {-9, -1}, {999, 0}, {-99, 0}, {1000, 1}, {-100, 1}, {math.MaxInt, 16}, {math.MinInt, 17}} {
		last.Y = s.y
		if got := len(plainLine(q)); got != api.MaxLine+s.much {
			t.Fatalf("a line of %d bytes; want %d", got, api.MaxLine+s.much)
		}
		if s.much <= 0 {
			wantLine(t, q, plainLine(q))
		} else {
			refuseWrite(t, q, api.ErrLong)
		}
	}
}

// TestWriteTellsLongAheadOfForm has fields that are wrong, in lines of MaxLine bytes and of one more.
func TestWriteTellsLongAheadOfForm(t *testing.T) {
	ahead := []string{"new ", "set ", "get ", "step ", "count ", "box ", "drop ", "copy ", "lease "}
	behind := []string{" B3/S23", " 1,2 0,0", "", " 5", "", "", "", " b", " 3"}
	for i, q := range good()[:9] {
		much := api.MaxLine - len(ahead[i]) - len(behind[i])
		for _, b := range []string{"a", "A", " ", "\x00"} {
			q.Name = strings.Repeat(b, much)
			refuseWrite(t, q, api.ErrForm)
			q.Name += b
			refuseWrite(t, q, api.ErrLong)
			q.Name = strings.Repeat(b, 3*much)
			refuseWrite(t, q, api.ErrLong)
		}
	}
	copying := api.Request{Verb: api.VerbCopy, Name: "a", Other: strings.Repeat("b", api.MaxLine-len("copy a "))}
	refuseWrite(t, copying, api.ErrForm)
	copying.Other += "b"
	refuseWrite(t, copying, api.ErrLong)
	// A rule that is none leaves the blank ahead of it.
	building := api.Request{Verb: api.VerbNew, Name: strings.Repeat("a", api.MaxLine-len("new ")-1), Rule: api.Rule{Born: 1}}
	refuseWrite(t, building, api.ErrForm)
	building.Name += "a"
	refuseWrite(t, building, api.ErrLong)
	// What the line does not tell does not make it long.
	refuseWrite(t, api.Request{Verb: api.VerbClean, Name: strings.Repeat("a", 2*api.MaxLine)}, api.ErrForm)
	refuseWrite(t, api.Request{Verb: api.VerbGet, Name: "a", Other: strings.Repeat("a", 2*api.MaxLine)}, api.ErrForm)
}

func TestWriteTooManyCells(t *testing.T) {
	for _, n := range []int{1499, 1500, 1501, api.MaxCells, api.MaxLine - 1, api.MaxLine, api.MaxLine + 1, 1000000} {
		q := api.Request{Verb: api.VerbSet, Name: "a", Cells: make([]api.Cell, n)}
		if 5+4*n <= api.MaxLine {
			t.Fatalf("%d cells are not too many", n)
		}
		refuseWrite(t, q, api.ErrLong)
		q.Cells[n-1] = at(math.MaxInt, math.MinInt)
		refuseWrite(t, q, api.ErrLong)
		q.Name, q.N = "A", 1
		refuseWrite(t, q, api.ErrLong)
	}
	line, q := fullLine(api.MaxLine - 2)
	wantLine(t, q, line)
}

// someRequest has good fields often, and some that its verb does not tell.
func someRequest(r *rand.Rand) api.Request {
	names := []string{"a", "b", "abcdefghijkl", "!a", "!0k", longKey, "", "!", "A", longer, "a b", "a 0,0", " "}
	numbers := []int{0, 1, -1, 3, 77, edge, -edge, edge + 1, -edge - 1, math.MaxInt, math.MinInt}
	rules := []api.Rule{life, {}, {Born: 510, Live: 511}, {Born: 1}, {Live: 512}, {Born: -2}}
	q := api.Request{Verb: r.Intn(13) - 1}
	name := func() string { return names[r.Intn(len(names))] }
	if r.Intn(8) > 0 {
		q.Name = name()
	}
	if q.Verb == api.VerbCopy || r.Intn(16) == 0 {
		q.Other = name()
	}
	if q.Verb == api.VerbNew || r.Intn(16) == 0 {
		q.Rule = rules[r.Intn(len(rules))]
	}
	if q.Verb == api.VerbStep || q.Verb == api.VerbLease || r.Intn(16) == 0 {
		q.N = numbers[r.Intn(len(numbers))]
	}
	if q.Verb == api.VerbSet || r.Intn(16) == 0 {
		for range r.Intn(4) {
			q.Cells = append(q.Cells, at(numbers[r.Intn(8)], numbers[r.Intn(7)]))
		}
	}
	return q
}

func TestWriteFieldByField(t *testing.T) {
	r := rand.New(rand.NewSource(9))
	seen := map[api.Errno]int{}
	for range 40000 {
		q := someRequest(r)
		got, e := speech.Write(q)
		wanted, wantedErr := slowWrite(q)
		if got != wanted || e != wantedErr {
			t.Fatalf("Write(%v): %q, error %d; want %q, error %d", q, got, e, wanted, wantedErr)
		}
		if e == api.OK {
			wantRead(t, got, q)
		}
		seen[e]++
	}
	if seen[api.OK] < 1000 || seen[api.ErrKind] < 1000 || seen[api.ErrForm] < 1000 {
		t.Errorf("requests by errors: %v", seen)
	}
}

func TestWriteLeavesItsCells(t *testing.T) {
	all := cells(at(3, 3), at(1, 1), at(2, 2), at(9, 9), at(8, 8))
	given := slices.Clone(all)
	wantLine(t, api.Request{Verb: api.VerbSet, Name: "a", Cells: given[:3]}, "set a 3,3 1,1 2,2")
	refuseWrite(t, api.Request{Verb: api.VerbGet, Name: "a", Cells: given[:3]}, api.ErrForm)
	if !slices.Equal(given, all) {
		t.Errorf("handed in %v, left behind %v", all, given)
	}
}
