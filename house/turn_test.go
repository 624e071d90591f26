package house_test

import (
	"slices"
	"strconv"
	"strings"
	"testing"

	"lifelodge/api"
	"lifelodge/frame"
	"lifelodge/rle"
)

// keyText is a key's text, by chapter 9.
func keyText(serial, draw int) string {
	z := uint64(serial)*0x9E3779B97F4A7C15 + uint64(draw)
	z = (z ^ z>>30) * 0xBF58476D1CE4E5B9
	z = (z ^ z>>27) * 0x94D049BB133111EB
	return "!" + strconv.Itoa(serial) + "k" + strconv.FormatUint(z^z>>31, 16)
}

// P12.3

func TestTurnOfNothing(t *testing.T) {
	h := boot(t, may(9, 9, 9))
	for range 3 {
		if h.Turn() {
			t.Errorf("a turn, where nothing waits")
		}
	}
	feed(t, h, 1, "clean\n")
	turn(t, h, 1)
	had := lookAt(h)
	for range 3 {
		if h.Turn() || !had.same(lookAt(h)) {
			t.Errorf("a turn, where nothing waits any more")
		}
	}
}

func TestTurnAnswersEachVerb(t *testing.T) {
	h := boot(t, may(500, 500))
	key := keyText(0, 0)
	for _, s := range []struct{ line, told string }{
		{"new a B3/S23", "ok"}, {"box a", "none"}, {"get a", "none\nx = 0, y = 0, rule = B3/S23\n!\n"}, {"count a", "count 0"},
		{"set a 0,0 1,0 2,0", "ok"}, {"set a", "ok"}, {"count a", "count 3"}, {"box a", "box 0 0 2 0"},
		{"step a 1", "ok"}, {"box a", "box 1 -1 1 1"}, {"get a", "at 1 -1\nx = 1, y = 3, rule = B3/S23\no$o$o!\n"},
		{"copy a b", "ok"}, {"lease a 1", "key " + key}, {"count " + key, "count 3"}, {"step " + key + " 1", "no 10"},
		{"drop a", "ok"}, {"count " + key, "no 6"}, {"drop b", "ok"},
	} {
		wantAnswers(t, h, 1, []string{s.line}, s.told)
	}
	wantAnswers(t, h, 1, []string{"clean"}, "count "+strconv.Itoa(h.Has(1)))
	if h.Has(1) != 0 || h.Out(0) != "" {
		t.Errorf("it has %d; the other one was told %q", h.Has(1), h.Out(0))
	}
}

// What the hall refuses is told, and changes nothing.
func TestTurnTellsWhatTheHallRefuses(t *testing.T) {
	h := boot(t, may(40))
	ask(t, h, 0, "new a B3/S23", "set a 0,0 1,0 2,0", "copy a b", "lease b 1")
	had := h.Has(0)
	for _, s := range []struct{ line, told string }{
		{"new a B3/S23", "no 7"}, {"copy a a", "no 7"}, {"copy c d", "no 6"}, {"get c", "no 6"}, {"drop c", "no 6"}, {"lease c 1", "no 6"},
		{"lease a 0", "no 3"}, {"lease a 4", "no 3"}, {"step a -1", "no 3"}, {"step a 1073741825", "no 3"}, {"set a 1099511627776,0", "no 3"},
		{"step a 1000000", "no 9"}, {"set a 1099511627775,0", "no 9"}, {"set " + keyText(0, 0) + " 5,5", "no 10"}, {"get !1k1", "no 6"},
	} {
		wantAnswers(t, h, 0, []string{s.line, "count a", "count b"}, s.told, "count 3", "count 3")
		if h.Has(0) != had {
			t.Errorf("behind %q it has %d; it had %d", s.line, h.Has(0), had)
		}
	}
}

func TestTurnTellsWhatSpeechRefuses(t *testing.T) {
	h := boot(t, may(40))
	ask(t, h, 0, "new a B3/S23", "set a 0,0 1,0 2,0")
	for _, s := range []struct{ line, told string }{
		{"", "no 4"}, {" ", "no 4"}, {"what", "no 4"}, {"clea", "no 4"}, {"Clean", "no 4"}, {" clean", "no 4"}, {"clean\r", "no 4"}, {"cle\x00an", "no 4"},
		{"clean ", "no 2"}, {"new", "no 2"}, {"new A B3/S23", "no 2"}, {"new b B3S23", "no 2"}, {"set a 0,0,0", "no 2"}, {"step a", "no 2"},
		{"step a 1 1", "no 2"}, {"step a 01", "no 2"}, {"get  a", "no 2"}, {"drop !1k1", "no 2"}, {"lease !1k1 1", "no 2"}, {"count abcdefghijklm", "no 2"},
		{"step a 1000000000000000000", "no 2"}, {"\x00\x00", "no 4"}, {"\x00 ", "no 4"}, {"\xff", "no 4"},
	} {
		wantAnswers(t, h, 0, []string{s.line, "count a"}, s.told, "count 3")
	}
}

func TestTurnOfALongLine(t *testing.T) {
	h := boot(t, may(40))
	ask(t, h, 0, "new a B3/S23")
	most := "set a" + strings.Repeat(" 1,1", 2000)
	for _, n := range []int{api.MaxLine - 1, api.MaxLine, api.MaxLine + 1, api.MaxLine + 2, api.MaxFeed - 1} {
		wanted := "no 4"
		if n > api.MaxLine {
			wanted = "no 1"
		}
		wantAnswers(t, h, 0, []string{strings.Repeat("x", n), strings.Repeat("\x00", n)}, wanted, wanted)
	}
	const little = len("set a") + 1498*len(" 1,1") // 3 bytes less than may be
	wantAnswers(t, h, 0, []string{most[:little] + "00"}, "ok")
	wantAnswers(t, h, 0, []string{most[:little] + "000"}, "ok")
	wantAnswers(t, h, 0, []string{most[:little] + "0000"}, "no 1")
	wantAnswers(t, h, 0, []string{most[:little] + " 1,1"}, "no 1")
}

// A line that is longer than what may come at once is one line still, and is told when it has ended.
func TestTurnOfALineLongerThanAFeed(t *testing.T) {
	h := boot(t, may(40, 40))
	for range 10 {
		feed(t, h, 0, strings.Repeat("x", api.MaxFeed))
		feed(t, h, 1, "clean\n")
		turn(t, h, 1)
		if h.Turn() || h.Out(0) != "" {
			t.Fatalf("a line that has not ended was told %q", h.Out(0))
		}
	}
	feed(t, h, 0, "\nclean\n")
	turn(t, h, 2)
	wantTold(t, h, 0, "no 1", "count 0")
}

// A byte 0 alone is what is told of a line that is too long: nothing tells them apart.
func TestTurnOfAByte0(t *testing.T) {
	h := boot(t, may(40))
	wantAnswers(t, h, 0, []string{"\x00", "clean", "\x00"}, "no 1", "count 0", "no 1")
}

// scattered is cells no two of which lie in a row, and the requests that set them.
func scattered(n int) (l []api.Cell, lines []string) {
	line := "set a"
	for i := range n {
		c := api.Cell{X: i * 1000003 % 16384, Y: i * 7}
		next := " " + strconv.Itoa(c.X) + "," + strconv.Itoa(c.Y)
		if len(line)+len(next) > api.MaxLine {
			lines, line = append(lines, line), "set a"
		}
		l, line = append(l, c), line+next
	}
	return l, append(lines, line)
}

// All cells that a list may have are told, however long their text is; with one more they can't be.
func TestTurnTellsMaxCells(t *testing.T) {
	h := boot(t, may(api.MaxRoom))
	wantAnswers(t, h, 0, []string{"new a B/S012345678"}, "ok")
	l, lines := scattered(api.MaxCells)
	for _, line := range lines {
		wantAnswers(t, h, 0, []string{line}, "ok")
	}
	text, e := rle.Encode(l, api.Rule{Live: 511})
	if e != api.OK || len(text) <= api.MaxText {
		t.Fatalf("Encode: %d bytes, error %d", len(text), e)
	}
	wantAnswers(t, h, 0, []string{"count a", "get a", "set a -1,0", "get a", "count a"}, "count 4096", "at 0 0\n"+text, "ok", "no 5", "count 4097")
}

// An answer may need more than one frame.
func TestTurnWrapsAnswers(t *testing.T) {
	h := boot(t, may(9000, 9))
	ask(t, h, 0, "new a B3/S23")
	wantOut(t, h.Out(0), frame.Wrap("ok"))
	line, cells := "set a", []api.Cell{}
	for i := range 60 {
		cells = append(cells, api.Cell{X: i * i % 61, Y: i})
		line += " " + strconv.Itoa(i*i%61) + "," + strconv.Itoa(i)
	}
	ask(t, h, 0, line, "get a", "what")
	text, e := rle.Encode(cells, api.Rule{Born: 8, Live: 12})
	if e != api.OK || len(text) < 2*api.Frame {
		t.Fatalf("Encode: %q, error %d", text, e)
	}
	wantOut(t, h.Out(0), frame.Wrap("ok")+frame.Wrap("ok")+frame.Wrap("at 0 0\n"+text)+frame.Wrap("no 4"))
	if h.Out(1) != "" {
		t.Errorf("another one was told %q", h.Out(1))
	}
}

func wantOut(t *testing.T, told, wanted string) {
	t.Helper()
	if told != wanted {
		t.Errorf("told %q; want %q", told, wanted)
	}
}

// order is whose turns come, one after the other, until nothing waits.
func order(t *testing.T, outs func() []int, turn func() bool) (l []int) {
	t.Helper()
	for {
		had := outs()
		if !turn() {
			return l
		}
		for tenant, n := range outs() {
			if n != had[tenant] {
				l = append(l, tenant)
			}
		}
	}
}

func TestTurnsGoRound(t *testing.T) {
	h := boot(t, may(9, 9, 9, 9))
	lengths := func() (l []int) {
		for tenant := range 4 {
			l = append(l, len(h.Out(tenant)))
		}
		return l
	}
	for _, s := range []struct{ lines, wanted []int }{
		{[]int{1, 1, 1, 1}, []int{0, 1, 2, 3}},
		{[]int{2, 0, 1, 0}, []int{0, 2, 0}},
		{[]int{2, 3, 0, 1}, []int{1, 3, 0, 1, 0, 1}},
		{[]int{1, 0, 1, 0}, []int{2, 0}},
		{[]int{10, 0, 0, 2}, []int{3, 0, 3, 0, 0, 0, 0, 0, 0, 0, 0, 0}},
		{[]int{0, 0, 0, 0}, nil},
		{[]int{3, 10, 1, 0}, []int{1, 2, 0, 1, 0, 1, 0, 1, 1, 1, 1, 1, 1, 1}},
	} {
		for tenant, n := range s.lines {
			feed(t, h, tenant, strings.Repeat("clean\n", n))
		}
		if l := order(t, lengths, h.Turn); !slices.Equal(l, s.wanted) {
			t.Errorf("%v lines: the turns came to %v; want %v", s.lines, l, s.wanted)
		}
	}
}
