package speech_test

import (
	"math/rand"
	"reflect"
	"regexp"
	"strconv"
	"strings"
	"testing"

	"lifelodge/api"
	"lifelodge/speech"
)

const (
	letters = "abcdefghijklmnopqrstuvwxyz"
	digits  = "0123456789"
	edge    = 999999999999999999
)

var (
	life   = api.Rule{Born: 1 << 3, Live: 1<<2 | 1<<3}
	longer = strings.Repeat("x", api.MaxName+1)
	// longKey is the longest text that is Keyed.
	longKey = "!" + (letters + digits + letters)[:40]
)

func at(x, y int) api.Cell { return api.Cell{X: x, Y: y} }

func cells(l ...api.Cell) []api.Cell { return l }

// equal takes a list without elements for what it is, nil or not.
func equal(a, b api.Request) bool {
	if len(a.Cells) == 0 && len(b.Cells) == 0 {
		a.Cells, b.Cells = nil, nil
	}
	return reflect.DeepEqual(a, b)
}

func wantRead(t *testing.T, line string, wanted api.Request) {
	t.Helper()
	if got, e := speech.Read(line); e != api.OK || !equal(got, wanted) {
		t.Errorf("Read(%.80q): %v, error %d; want %v", line, got, e, wanted)
	}
}

func refuseRead(t *testing.T, line string, wanted api.Errno) {
	t.Helper()
	if got, e := speech.Read(line); e != wanted || !equal(got, api.Request{}) {
		t.Errorf("Read(%.80q): %v, error %d; want error %d and nothing else", line, got, e, wanted)
	}
}

// goodLines are at least one line of each row of the table, with their requests.
func goodLines() map[string]api.Request {
	return map[string]api.Request{
		"new a B3/S23":                       {Verb: api.VerbNew, Name: "a", Rule: life},
		"new abcdefghijkl B/S":               {Verb: api.VerbNew, Name: "abcdefghijkl"},
		"new new B12345678/S012345678":       {Verb: api.VerbNew, Name: "new", Rule: api.Rule{Born: 510, Live: 511}},
		"set a":                              {Verb: api.VerbSet, Name: "a"},
		"set a 0,0":                          {Verb: api.VerbSet, Name: "a", Cells: cells(at(0, 0))},
		"set !k0 1,-2 3,4":                   {Verb: api.VerbSet, Name: "!k0", Cells: cells(at(1, -2), at(3, 4))},
		"set a 5,5 5,5 5,5":                  {Verb: api.VerbSet, Name: "a", Cells: cells(at(5, 5), at(5, 5), at(5, 5))},
		"set a 2,1 1,1 0,2 0,-1":             {Verb: api.VerbSet, Name: "a", Cells: cells(at(2, 1), at(1, 1), at(0, 2), at(0, -1))},
		"set a 999999999999999999,0":         {Verb: api.VerbSet, Name: "a", Cells: cells(at(edge, 0))},
		"set a 0,-999999999999999999":        {Verb: api.VerbSet, Name: "a", Cells: cells(at(0, -edge))},
		"get a":                              {Verb: api.VerbGet, Name: "a"},
		"get !a":                             {Verb: api.VerbGet, Name: "!a"},
		"get " + longKey:                     {Verb: api.VerbGet, Name: longKey},
		"step a 1":                           {Verb: api.VerbStep, Name: "a", N: 1},
		"step !9 0":                          {Verb: api.VerbStep, Name: "!9", N: 0},
		"step a -999999999999999999":         {Verb: api.VerbStep, Name: "a", N: -edge},
		"count b":                            {Verb: api.VerbCount, Name: "b"},
		"count !b":                           {Verb: api.VerbCount, Name: "!b"},
		"box c":                              {Verb: api.VerbBox, Name: "c"},
		"box !c":                             {Verb: api.VerbBox, Name: "!c"},
		"drop d":                             {Verb: api.VerbDrop, Name: "d"},
		"copy a b":                           {Verb: api.VerbCopy, Name: "a", Other: "b"},
		"copy !a b":                          {Verb: api.VerbCopy, Name: "!a", Other: "b"},
		"copy a a":                           {Verb: api.VerbCopy, Name: "a", Other: "a"},
		"lease a 3":                          {Verb: api.VerbLease, Name: "a", N: 3},
		"lease abcdefghijkl -7":              {Verb: api.VerbLease, Name: "abcdefghijkl", N: -7},
		"clean":                              {Verb: api.VerbClean},
		"step clean 999999999999999999":      {Verb: api.VerbStep, Name: "clean", N: edge},
		"set zyxwvutsrqpo -1,-1 -1,0 10,100": {Verb: api.VerbSet, Name: "zyxwvutsrqpo", Cells: cells(at(-1, -1), at(-1, 0), at(10, 100))},
	}
}

// P8.1

func TestNamed(t *testing.T) {
	for _, s := range []string{"a", "z", "m", "set", "abcdefghijkl", "zzzzzzzzzzzz", letters[14:], strings.Repeat("q", api.MaxName)} {
		if !speech.Named(s) {
			t.Errorf("Named(%q): false", s)
		}
	}
	for _, s := range []string{
		"", longer, strings.Repeat("a", 100000), "A", "aB", "Ba", "a1", "1a", "1", "a b", " a", "a ", " ", "a-", "_",
		"!a", "!", "a!", "a\x00", "\x00", "a\n", "\n", "`", "{", "@", "\x7f", "\x80", "\xff", "a\xff", "\xe1", "ä", "aäb", "ａ", "aKb", "a\xc3",
	} {
		if speech.Named(s) {
			t.Errorf("Named(%q): true", s)
		}
	}
}

func TestKeyed(t *testing.T) {
	for _, s := range []string{"!a", "!z", "!0", "!9", "!a1", "!1a", "!0kff", longKey, "!" + strings.Repeat("7", 40), "!" + strings.Repeat("y", 40), "!abcdefghijklm"} {
		if !speech.Keyed(s) {
			t.Errorf("Keyed(%q): false", s)
		}
	}
	for _, s := range []string{
		"", "!", "!!", "!!a", "a", "a!", "!a!", "0", longKey + "a", longKey[1:], "!" + strings.Repeat("7", 41), "!" + strings.Repeat("7", 100000),
		"!A", "!aB", "! ", "! a", " !a", "!a ", "!a b", "!-1", "!a\n", "!\x00", "!/", "!:", "!`", "!{", "!\x80", "!\xff", "!ä", "!a\xff", "!٣", "?a", "\"a",
	} {
		if speech.Keyed(s) {
			t.Errorf("Keyed(%q): true", s)
		}
	}
}

// TestEveryByte has each byte where a name's or a key's letter would be.
func TestEveryByte(t *testing.T) {
	for b := range 256 {
		letter := 'a' <= b && b <= 'z'
		digit := '0' <= b && b <= '9'
		s := string([]byte{byte(b)})
		for _, name := range []string{s, "a" + s, s + "a", "a" + s + "a"} {
			if speech.Named(name) != letter {
				t.Errorf("Named(%q): %v", name, !letter)
			}
			if key := "!" + name; speech.Keyed(key) != (letter || digit) {
				t.Errorf("Keyed(%q): %v", key, !(letter || digit))
			}
		}
		if speech.Keyed(s+"a") != (b == '!') {
			t.Errorf("Keyed(%q): %v", s+"a", b != '!')
		}
	}
}

func TestEveryLength(t *testing.T) {
	for n := range 100 {
		name := strings.Repeat("k", n)
		if speech.Named(name) != (1 <= n && n <= api.MaxName) {
			t.Errorf("Named of %d letters: %v", n, speech.Named(name))
		}
		if speech.Keyed("!"+name) != (1 <= n && n <= 40) {
			t.Errorf("Keyed of %d letters: %v", n, speech.Keyed("!"+name))
		}
	}
}

// P8.2

// goodNums are numbers' texts, those at the bounds among them.
func goodNums() map[string]int {
	return map[string]int{
		"0": 0, "1": 1, "-1": -1, "9": 9, "10": 10, "-10": -10, "100": 100, "-907": -907,
		"9223372036854775": 9223372036854775, "-9223372036854775": -9223372036854775,
		"999999999999999998": edge - 1, "999999999999999999": edge,
		"-999999999999999998": 1 - edge, "-999999999999999999": -edge,
		"100000000000000000": 100000000000000000,
	}
}

func badNums() []string {
	l := []string{
		"", "-", "+", "--1", "-0", "+0", "00", "01", "-01", "007", "+1", "-00", "1-", "1+", "- 1", "1 ", "1.", "1.0", ".5", "1e3", "0x1", "0b1", "0o7", "1_0", "_1",
		"a", "1a", "a1", "\x00", "1\x00", "\t1", "1\n", "\n", "NaN", "Inf", "١", "１", "\xff", "−1",
		"1000000000000000000", "1000000000000000001", "-1000000000000000000", "-1000000000000000001", "0999999999999999999",
		"9223372036854775807", "9223372036854775808", "-9223372036854775808", "-9223372036854775809",
		"18446744073709551615", "18446744073709551616", "18446744073709551617", "-18446744073709551615", "36893488147419103233",
	}
	for _, d := range []string{"0", "1", "9"} {
		l = append(l, strings.Repeat(d, 19), strings.Repeat(d, 20), strings.Repeat(d, 2000), "-"+strings.Repeat(d, 2000))
	}
	return append(l, strings.Repeat("0", 2000)+"1", "-"+strings.Repeat("0", 30)+"1", "1"+strings.Repeat("0", 2000))
}

func TestNums(t *testing.T) {
	for s, n := range goodNums() {
		wantRead(t, "step a "+s, api.Request{Verb: api.VerbStep, Name: "a", N: n})
		wantRead(t, "lease a "+s, api.Request{Verb: api.VerbLease, Name: "a", N: n})
		wantRead(t, "set a "+s+",7", api.Request{Verb: api.VerbSet, Name: "a", Cells: cells(at(n, 7))})
		wantRead(t, "set a -7,"+s, api.Request{Verb: api.VerbSet, Name: "a", Cells: cells(at(-7, n))})
		wantRead(t, "set a 1,2 "+s+","+s+" 3,4", api.Request{Verb: api.VerbSet, Name: "a", Cells: cells(at(1, 2), at(n, n), at(3, 4))})
	}
	for _, s := range badNums() {
		refuseRead(t, "step a "+s, api.ErrForm)
		refuseRead(t, "lease a "+s, api.ErrForm)
		refuseRead(t, "set a "+s+",7", api.ErrForm)
		refuseRead(t, "set a -7,"+s, api.ErrForm)
		refuseRead(t, "set a 1,2 "+s+",0 3,4", api.ErrForm)
		refuseRead(t, "set a 1,2 3,4 0,"+s, api.ErrForm)
	}
}

func TestManyNums(t *testing.T) {
	for n := -1100; n <= 1100; n++ {
		wantRead(t, "step a "+strconv.Itoa(n), api.Request{Verb: api.VerbStep, Name: "a", N: n})
	}
	for d := 1; d <= 18; d++ {
		n, _ := strconv.Atoi("1" + strings.Repeat("0", d-1))
		for _, m := range []int{n, n + 1, n - 1, -n, -n - 1, 1 - n} {
			wantRead(t, "step a "+strconv.Itoa(m), api.Request{Verb: api.VerbStep, Name: "a", N: m})
		}
	}
}

// P8.3

func TestReadTheTable(t *testing.T) {
	for line, q := range goodLines() {
		wantRead(t, line, q)
	}
}

// TestReadAWordTooManyOrTooFew takes away each word of good lines but the first, and puts one in.
func TestReadAWordTooManyOrTooFew(t *testing.T) {
	for line, q := range goodLines() {
		words := strings.Split(line, " ")
		for n := 1; n < len(words); n++ {
			less := strings.Join(append(append([]string{}, words[:n]...), words[n+1:]...), " ")
			// Without one of its cells a set is still one.
			if q.Verb != api.VerbSet || n == 1 {
				refuseRead(t, less, api.ErrForm)
			}
		}
		for _, more := range []string{"a", "1", "!a", "B3/S23", "clean", "x,y", line} {
			refuseRead(t, line+" "+more, api.ErrForm)
		}
		if q.Verb != api.VerbSet {
			refuseRead(t, line+" 0,0", api.ErrForm)
		}
		if len(words) > 1 {
			refuseRead(t, words[0], api.ErrForm)
		}
	}
}

func TestReadBlanks(t *testing.T) {
	for line := range goodLines() {
		refuseRead(t, line+" ", api.ErrForm)
		refuseRead(t, line+"  ", api.ErrForm)
		// Ahead of the first word stands an empty one, which is none of the table.
		refuseRead(t, " "+line, api.ErrKind)
		refuseRead(t, "  "+line, api.ErrKind)
		first := strings.Index(line+" ", " ")
		for i := range len(line) {
			if line[i] != ' ' {
				continue
			}
			for _, other := range []string{"  ", "\t", " \t", "\t ", "\n", "\r", "\x00", "\u00a0", "_", ""} {
				wrong := line[:i] + other + line[i+1:]
				wanted := api.ErrForm
				if i == first && other[:min(1, len(other))] != " " {
					wanted = api.ErrKind
				}
				refuseRead(t, wrong, wanted)
			}
		}
		wanted := api.ErrForm
		if first == len(line) {
			wanted = api.ErrKind
		}
		for _, behind := range []string{"\t", "\n", "\r", "\x00"} {
			refuseRead(t, line+behind, wanted)
		}
	}
}

func TestReadCapitals(t *testing.T) {
	for line := range goodLines() {
		word, _, _ := strings.Cut(line, " ")
		for i := range len(line) {
			c := line[i]
			if c < 'a' || c > 'z' {
				continue
			}
			wanted := api.ErrForm
			if i < len(word) {
				wanted = api.ErrKind
			}
			refuseRead(t, line[:i]+string([]byte{c - 'a' + 'A'})+line[i+1:], wanted)
		}
	}
}

func TestReadFirstWords(t *testing.T) {
	for _, word := range []string{"new", "set", "get", "step", "count", "box", "drop", "copy", "lease"} {
		refuseRead(t, word, api.ErrForm)
		refuseRead(t, word+" ", api.ErrForm)
		refuseRead(t, word+" A", api.ErrForm)
		refuseRead(t, word+"s a", api.ErrKind)
		refuseRead(t, word[:len(word)-1]+" a", api.ErrKind)
		refuseRead(t, word+"\x00 a", api.ErrKind)
	}
	for _, line := range []string{
		"", " ", "  ", "\x00", "\n", "\t", "a", "0", "1", "10", "3 a", "!a", "a b c", "help", "cleans", "clea", "Clean", "newa B3/S23", "no 3", "ok", "none", "key !a", "at 0 0",
		"-1", "new,a", "\xff", "\xff a", "get\xff a", "ａ", "delete a", "put a 0,0", "verb a", "B3/S23", ",", "0,0",
	} {
		refuseRead(t, line, api.ErrKind)
	}
}

// TestReadTellsKindAheadOfForm: what stands behind a first word that is none of the table does not matter.
func TestReadTellsKindAheadOfForm(t *testing.T) {
	for _, rest := range []string{"", " ", " a", "  ", " a a a", " !!", " \xff", " 0,0"} {
		refuseRead(t, "nothing"+rest, api.ErrKind)
		refuseRead(t, "clear"+rest, api.ErrKind)
		refuseRead(t, rest, api.ErrKind)
	}
}

func TestReadNamesAndPlaces(t *testing.T) {
	behind := map[string]string{"new": " B3/S23", "set": " 0,0", "get": "", "step": " 1", "count": "", "box": "", "drop": "", "copy": " b", "lease": " 1"}
	byKey := map[string]int{"set": 1, "get": 1, "step": 1, "count": 1, "box": 1, "copy": 1}
	for word, rest := range behind {
		for _, key := range []string{"!a", "!0kff", "!9", longKey} {
			line := word + " " + key + rest
			q, e := speech.Read(line)
			if byKey[word] == 1 && (e != api.OK || q.Name != key) {
				t.Errorf("Read(%q): %v, error %d", line, q, e)
			}
			if byKey[word] == 0 {
				refuseRead(t, line, api.ErrForm)
			}
		}
		for _, wrong := range []string{"", "!", "!!a", "a!", "!A", longKey + "a", longer, "A", "a1", "1", "a,b", "-", "ä", "\xff", "B3/S23", "0,0", "a\x00"} {
			refuseRead(t, word+" "+wrong+rest, api.ErrForm)
		}
	}
	for _, wrong := range []string{"", "!a", "!", "A", "a1", longer, longKey, "0", "ä"} {
		refuseRead(t, "copy a "+wrong, api.ErrForm)
		refuseRead(t, "copy !a "+wrong, api.ErrForm)
	}
}

func TestReadRules(t *testing.T) {
	for _, wrong := range []string{
		"", "B", "S", "/", "B/", "/S", "B3", "S23", "B3S23", "B3/23", "3/S23", "b3/s23", "b3/S23", "B3/s23", "B0/S", "B03/S23", "B0/S0", "B012345678/S012345678",
		"B3/S32", "B33/S23", "B63/S", "B9/S", "B3/S9", "S23/B3", "23/3", "B3/S23/", "B3/S23,", "B3,/S23", "B3/S2,3", "B/S/S", "B3 /S23", "B3/ S23", "B3/S23 ", "\"B3/S23\"", "B3/S2\xff", "life", "0", "a",
	} {
		refuseRead(t, "new a "+wrong, api.ErrForm)
	}
	for born := 0; born < 512; born += 2 {
		for _, live := range []int{0, 1, 2, 12, 256, 511, born} {
			line := "new a B" + bits(born) + "/S" + bits(live)
			wantRead(t, line, api.Request{Verb: api.VerbNew, Name: "a", Rule: api.Rule{Born: born, Live: live}})
		}
	}
}

func bits(set int) string {
	s := ""
	for n := range 9 {
		if set&(1<<n) != 0 {
			s += strconv.Itoa(n)
		}
	}
	return s
}

func TestReadCells(t *testing.T) {
	for _, wrong := range []string{
		"0", "1", ",", ",,", "1,", ",1", "1,2,", ",1,2", "1,,2", "1,2,3", "1,2,3,4", "1;2", "1.2", "(1,2)", "1,2;3,4", "1, 2", "1 ,2", "1-2", "x,y", "a,1", "1,a", "1,-", "-,1", "1\x002", "1,2\x00", "1,2\xff", "", "!a", "a",
	} {
		refuseRead(t, "set a "+wrong, api.ErrForm)
		refuseRead(t, "set a "+wrong+" 0,0", api.ErrForm)
		refuseRead(t, "set a 0,0 "+wrong, api.ErrForm)
		refuseRead(t, "set !a 0,0 "+wrong+" 0,0", api.ErrForm)
	}
}

func TestReadManyCells(t *testing.T) {
	var line strings.Builder
	line.WriteString("set a")
	q := api.Request{Verb: api.VerbSet, Name: "a"}
	for n := range 500 {
		c := at(n*7%50-25, 20-n%41)
		q.Cells = append(q.Cells, c)
		line.WriteString(" " + strconv.Itoa(c.X) + "," + strconv.Itoa(c.Y))
	}
	wantRead(t, line.String(), q)
	refuseRead(t, line.String()+" ", api.ErrForm)
	refuseRead(t, line.String()+" 1", api.ErrForm)
}

// fullLine is a set with as many cells as fill just n bytes, n a multiple of 4 and 2 more.
func fullLine(n int) (string, api.Request) {
	const begin = "set ab"
	q := api.Request{Verb: api.VerbSet, Name: "ab", Cells: make([]api.Cell, (n-len(begin))/4)}
	return begin + strings.Repeat(" 0,0", len(q.Cells)), q
}

func TestReadAtMaxLine(t *testing.T) {
	good, q := fullLine(api.MaxLine - 2)
	wantRead(t, good, q)
	for _, s := range []struct {
		last string
		y    int
		much int
	}{{"9", 9, -2}, {"-9", -9, -1}, {"999", 999, 0}, {"-99", -99, 0}, {"1000", 0, 1}, {"-100", 0, 1}, {"0001", 0, 1}} {
		line := strings.TrimSuffix(good, "0") + s.last
		if len(line) != api.MaxLine+s.much {
			t.Fatalf("a line of %d bytes; want %d", len(line), api.MaxLine+s.much)
		}
		if s.much > 0 {
			refuseRead(t, line, api.ErrLong)
			continue
		}
		q.Cells[len(q.Cells)-1].Y = s.y
		wantRead(t, line, q)
	}
}

func TestReadBadLinesAtMaxLine(t *testing.T) {
	for _, s := range []struct {
		begin  string
		fill   string
		wanted api.Errno
	}{
		{"get ", "a", api.ErrForm},
		{"step a ", "1", api.ErrForm},
		{"clean", " ", api.ErrForm},
		{"set a ", "0,0 ", api.ErrForm},
		{"new a B3/S", "3", api.ErrForm},
		{"get", "t", api.ErrKind},
		{"", "x", api.ErrKind},
		{"", " ", api.ErrKind},
		{"", "\x00", api.ErrKind},
		{"", "\xff", api.ErrKind},
	} {
		line := (s.begin + strings.Repeat(s.fill, api.MaxLine))
		refuseRead(t, line[:api.MaxLine-1], s.wanted)
		refuseRead(t, line[:api.MaxLine], s.wanted)
		refuseRead(t, (line + line)[:api.MaxLine+1], api.ErrLong)
		refuseRead(t, line+line, api.ErrLong)
	}
	for line := range goodLines() {
		refuseRead(t, line+strings.Repeat(" ", api.MaxLine), api.ErrLong)
		refuseRead(t, strings.Repeat(" ", api.MaxLine)+line, api.ErrLong)
	}
}

// The table once more, as patterns.
const (
	numForm   = `(?:0|-?[1-9][0-9]{0,17})`
	nameForm  = `[a-z]{1,12}`
	placeForm = `(?:` + nameForm + `|![a-z0-9]{1,40})`
	ruleForm  = `B1?2?3?4?5?6?7?8?/S0?1?2?3?4?5?6?7?8?`
)

var (
	lineForms = regexp.MustCompile(`\A(?:new ` + nameForm + ` ` + ruleForm +
		`|set ` + placeForm + `(?: ` + numForm + `,` + numForm + `)*` +
		`|(?:get|count|box) ` + placeForm +
		`|step ` + placeForm + ` ` + numForm +
		`|drop ` + nameForm +
		`|copy ` + placeForm + ` ` + nameForm +
		`|lease ` + nameForm + ` ` + numForm +
		`|clean)\z`)
	firstForm = regexp.MustCompile(`\A(?:new|set|get|step|count|box|drop|copy|lease|clean)(?: |\z)`)
)

// slowError is what Read must say of a line.
func slowError(line string) api.Errno {
	switch {
	case len(line) > api.MaxLine:
		return api.ErrLong
	case !firstForm.MatchString(line):
		return api.ErrKind
	case !lineForms.MatchString(line):
		return api.ErrForm
	}
	return api.OK
}

// someLine is words of the table and others, often as they should be.
func someLine(r *rand.Rand) string {
	verbs := []string{"new", "set", "get", "step", "count", "box", "drop", "copy", "lease", "clean", "", "a", "Get", "sett"}
	words := []string{
		"a", "b", "abc", "!a", "!0", "!", "abcdefghijkl", longer, longKey, "B3/S23", "B/S", "B0/S", "B3/S32", "0", "1", "-1", "-0", "01", "12345", "999999999999999999", "1000000000000000000",
		"0,0", "1,-1", "-5,17", "0,", ",0", "1,2,3", "", "A", "a\t", "\xff",
	}
	l := []string{verbs[r.Intn(len(verbs))]}
	for range r.Intn(4) {
		l = append(l, words[r.Intn(len(words))])
	}
	return strings.Join(l, " ")
}

// hurt changes one byte of a line.
func hurt(r *rand.Rand, line string) string {
	const bytes = " \t,-!/+019abzABSZ\x00\n\xff"
	i := r.Intn(len(line) + 1)
	b := string(bytes[r.Intn(len(bytes))])
	switch r.Intn(3) {
	case 0:
		return line[:i] + b + line[i:]
	case 1:
		return line[:i] + b + line[min(len(line), i+1):]
	}
	return line[:i] + line[min(len(line), i+1):]
}

func TestReadByPatterns(t *testing.T) {
	r := rand.New(rand.NewSource(8))
	good := make([]string, 0, len(goodLines()))
	for line := range goodLines() {
		good = append(good, line)
	}
	seen := map[api.Errno]int{}
	for n := range 60000 {
		line := someLine(r)
		if n%2 == 0 {
			line = hurt(r, good[r.Intn(len(good))])
		}
		q, e := speech.Read(line)
		if wanted := slowError(line); e != wanted {
			t.Fatalf("Read(%q): error %d; want %d", line, e, wanted)
		}
		if e != api.OK && !equal(q, api.Request{}) {
			t.Fatalf("Read(%q): error %d, and %v", line, e, q)
		}
		if e == api.OK && plainLine(q) != line {
			t.Fatalf("Read(%q): %v, which is %q", line, q, plainLine(q))
		}
		seen[e]++
	}
	if seen[api.OK] < 1000 || seen[api.ErrKind] < 1000 || seen[api.ErrForm] < 1000 {
		t.Errorf("lines by errors: %v", seen)
	}
}

// What holds everywhere.

func TestReadTellsNewMemory(t *testing.T) {
	const line = "set a 1,2 3,4 5,6"
	first, _ := speech.Read(line)
	l := first.Cells[:cap(first.Cells)]
	for i := range l {
		l[i] = at(-77, -77)
	}
	wantRead(t, line, api.Request{Verb: api.VerbSet, Name: "a", Cells: cells(at(1, 2), at(3, 4), at(5, 6))})
}
