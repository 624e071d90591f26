package rle_test

import (
	"math"
	"math/rand"
	"regexp"
	"slices"
	"strconv"
	"strings"
	"testing"

	"lifelodge/api"
	"lifelodge/plane"
	"lifelodge/rle"
	"lifelodge/rule"
)

const (
	edge = api.MaxCoord - 1
	head = "x = 9, y = 9\n"
)

var life = api.Rule{Born: 1 << 3, Live: 1<<2 | 1<<3}

func at(x, y int) api.Cell { return api.Cell{X: x, Y: y} }

func cells(l ...api.Cell) []api.Cell { return l }

// row is n cells side by side, from x on.
func row(x, y, n int) []api.Cell {
	l := make([]api.Cell, n)
	for i := range l {
		l[i] = at(x+i, y)
	}
	return l
}

// apart is n cells with one dead cell between two.
func apart(n int) []api.Cell {
	l := make([]api.Cell, n)
	for i := range l {
		l[i] = at(2*i, 0)
	}
	return l
}

func badRules() []api.Rule {
	return []api.Rule{
		{Born: 1},
		{Born: 9, Live: 12},
		{Born: 511, Live: 511},
		{Born: 512},
		{Born: -2},
		{Born: math.MinInt},
		{Born: math.MaxInt - 1},
		{Born: 8, Live: 512},
		{Born: 8, Live: -1},
		{Born: 8, Live: math.MaxInt},
	}
}

// badLists are lists that Tidy refuses, each with its error.
func badLists() []struct {
	name string
	l    []api.Cell
	e    api.Errno
} {
	return []struct {
		name string
		l    []api.Cell
		e    api.Errno
	}{
		{"one cell too often", make([]api.Cell, api.MaxCells+1), api.ErrFull},
		{"too many, and too far", append(row(0, 0, api.MaxCells), at(0, api.MaxCoord)), api.ErrFull},
		{"X at MaxCoord", cells(at(api.MaxCoord, 0)), api.ErrRange},
		{"X at -MaxCoord", cells(at(-api.MaxCoord, 0)), api.ErrRange},
		{"Y at MaxCoord", cells(at(0, 0), at(0, api.MaxCoord)), api.ErrRange},
		{"Y at -MaxCoord", cells(at(0, 0), at(0, -api.MaxCoord)), api.ErrRange},
		{"the greatest numbers", cells(at(math.MaxInt, math.MaxInt)), api.ErrRange},
		{"the least numbers", cells(at(math.MinInt, math.MinInt)), api.ErrRange},
	}
}

func someCells(r *rand.Rand, wide, high, most int) []api.Cell {
	l := make([]api.Cell, r.Intn(most+1))
	for i := range l {
		l[i] = at(r.Intn(wide)-wide/2, r.Intn(high)-high/2)
	}
	return l
}

func someRule(r *rand.Rand) api.Rule {
	return api.Rule{Born: 2 * r.Intn(256), Live: r.Intn(512)}
}

func wantText(t *testing.T, what string, l []api.Cell, r api.Rule, wanted string) {
	t.Helper()
	if got, e := rle.Encode(l, r); e != api.OK || got != wanted {
		t.Errorf("%s: %q, error %d; want %q", what, got, e, wanted)
	}
}

func refuseText(t *testing.T, what string, l []api.Cell, r api.Rule, wanted api.Errno) {
	t.Helper()
	if got, e := rle.Encode(l, r); e != wanted || got != "" {
		t.Errorf("%s: %d bytes, error %d; want error %d and no text", what, len(got), e, wanted)
	}
}

func wantCells(t *testing.T, s string, wanted []api.Cell, wantedRule api.Rule) {
	t.Helper()
	l, r, e := rle.Decode(s)
	if e != api.OK || r != wantedRule || !slices.Equal(l, wanted) {
		t.Errorf("Decode(%.200q): %v, %v, error %d; want %v, %v", s, l, r, e, wanted, wantedRule)
	}
}

func refuseCells(t *testing.T, s string, wanted api.Errno) {
	t.Helper()
	l, r, e := rle.Decode(s)
	if e != wanted || len(l) != 0 || r != (api.Rule{}) {
		t.Errorf("Decode(%.200q): %d cells, %v, error %d; want error %d and nothing else", s, len(l), r, e, wanted)
	}
}

// P3.1

func TestEncodeTellsSizeAndRule(t *testing.T) {
	for _, s := range []struct {
		name   string
		l      []api.Cell
		r      api.Rule
		wanted string
	}{
		{"nothing", nil, life, "x = 0, y = 0, rule = B3/S23\n!\n"},
		{"no cells", cells(), api.Rule{}, "x = 0, y = 0, rule = B/S\n!\n"},
		{"one", cells(at(0, 0)), life, "x = 1, y = 1, rule = B3/S23\no!\n"},
		{"one far away", cells(at(-edge, edge)), life, "x = 1, y = 1, rule = B3/S23\no!\n"},
		{"one, twice", cells(at(4, 4), at(4, 4)), life, "x = 1, y = 1, rule = B3/S23\no!\n"},
		{"all of a rule", cells(at(5, -5)), api.Rule{Born: 510, Live: 511}, "x = 1, y = 1, rule = B12345678/S012345678\no!\n"},
		{"across 0", cells(at(-2, -1), at(1, 1)), life, "x = 4, y = 3, rule = B3/S23\no2$3bo!\n"},
		{"wide", cells(at(9, 0), at(0, 0)), life, "x = 10, y = 1, rule = B3/S23\no8bo!\n"},
		{"high", cells(at(0, 9), at(0, 0)), life, "x = 1, y = 10, rule = B3/S23\no9$o!\n"},
		{"as wide and high as the plane", cells(at(edge, edge), at(-edge, -edge)), life,
			"x = 2199023255551, y = 2199023255551, rule = B3/S23\no2199023255550$2199023255550bo!\n"},
	} {
		wantText(t, s.name, s.l, s.r, s.wanted)
	}
}

func TestEncodeTellsEachRule(t *testing.T) {
	for born := 0; born < 512; born += 2 {
		for live := range 512 {
			r := api.Rule{Born: born, Live: live}
			text, _ := rule.Text(r)
			wantText(t, "a rule", nil, r, "x = 0, y = 0, rule = "+text+"\n!\n")
		}
	}
}

func TestEncodeRefuses(t *testing.T) {
	for _, s := range badLists() {
		refuseText(t, s.name, s.l, life, s.e)
		for _, r := range badRules() {
			refuseText(t, "no rule, "+s.name, s.l, r, s.e)
		}
	}
	for _, r := range badRules() {
		refuseText(t, "no rule, no cells", nil, r, api.ErrRange)
		refuseText(t, "no rule, a cell", cells(at(0, 0)), r, api.ErrRange)
	}
}

// P3.2

func TestEncodeTellsRuns(t *testing.T) {
	for _, s := range []struct {
		name   string
		l      []api.Cell
		wanted string
	}{
		{"two", row(0, 0, 2), "x = 2, y = 1, rule = B3/S23\n2o!\n"},
		{"turned round", cells(at(2, 0), at(1, 0), at(0, 0)), "x = 3, y = 1, rule = B3/S23\n3o!\n"},
		{"cells twice", cells(at(1, 0), at(0, 0), at(1, 0)), "x = 2, y = 1, rule = B3/S23\n2o!\n"},
		{"one dead between", cells(at(0, 0), at(2, 0)), "x = 3, y = 1, rule = B3/S23\nobo!\n"},
		{"two dead between", cells(at(0, 0), at(3, 0)), "x = 4, y = 1, rule = B3/S23\no2bo!\n"},
		{"ten", row(7, 7, 10), "x = 10, y = 1, rule = B3/S23\n10o!\n"},
		{"a column", cells(at(0, 2), at(0, 1), at(0, 0)), "x = 1, y = 3, rule = B3/S23\no$o$o!\n"},
		{"runs end with rows", cells(at(0, 0), at(1, 0), at(2, 1), at(3, 1)), "x = 4, y = 2, rule = B3/S23\n2o$2b2o!\n"},
		{"dead cells at a row's end", cells(at(0, 0), at(9, 1), at(0, 2)), "x = 10, y = 3, rule = B3/S23\no$9bo$o!\n"},
		{"a row without live cells", cells(at(0, 0), at(0, 2)), "x = 1, y = 3, rule = B3/S23\no2$o!\n"},
		{"ten ends of rows", cells(at(1, 0), at(0, 10)), "x = 2, y = 11, rule = B3/S23\nbo10$o!\n"},
		{"dead cells ahead in each row", cells(at(-3, 0), at(-4, 1), at(-5, 2)), "x = 3, y = 3, rule = B3/S23\n2bo$bo$o!\n"},
		{"the most of a row", row(-9, 3, api.MaxCells), "x = 4096, y = 1, rule = B3/S23\n4096o!\n"},
		{"far apart in a row", cells(at(-edge, 0), at(edge, 0)), "x = 2199023255551, y = 1, rule = B3/S23\no2199023255549bo!\n"},
	} {
		wantText(t, s.name, s.l, life, s.wanted)
	}
}

// TestEncodeBreaksLines has pieces of one byte up to the line's end, and of more across it.
func TestEncodeBreaksLines(t *testing.T) {
	line := strings.Repeat("ob", 34)
	for _, s := range []struct {
		name        string
		l           []api.Cell
		width, body string
	}{
		{"68 bytes with the !", append(apart(33), at(66, 0)), "67", line[:67] + "!"},
		{"70 bytes with the !", append(apart(34), at(68, 0)), "69", line + "o!"},
		{"70 bytes ahead of the !", append(apart(34), at(68, 0), at(69, 0)), "70", line + "2o\n!"},
		{"a piece of 2 bytes ends at 71", append(apart(34), at(68, 0), at(71, 0)), "72", line + "o\n2bo!"},
		{"a piece of 2 bytes ends at 70", append(apart(34), row(68, 0, 9)...), "77", line + "9o\n!"},
		{"a piece of 3 bytes would end at 71", append(apart(34), row(68, 0, 10)...), "78", line + "\n10o!"},
		{"a piece of 4 bytes would end at 72", append(apart(34), row(68, 0, 100)...), "168", line + "\n100o!"},
		{"a piece of 1 byte at 71", append(apart(35), at(70, 0)), "71", line + "ob\no!"},
		{"two full lines", append(apart(70), at(140, 0)), "141", line + "ob\n" + line + "ob\no!"},
		{"two full lines, and the !", append(apart(69), row(138, 0, 2)...), "140", line + "ob\n" + line + "2o\n!"},
	} {
		wantText(t, s.name, s.l, life, "x = "+s.width+", y = 1, rule = B3/S23\n"+s.body+"\n")
	}
	wantText(t, "an end of rows ends at 70", append(apart(34), at(68, 0), at(0, 1)), life,
		"x = 69, y = 2, rule = B3/S23\n"+line+"o$\no!\n")
	wantText(t, "ends of rows would end at 71", append(apart(34), at(68, 0), at(0, 2)), life,
		"x = 69, y = 3, rule = B3/S23\n"+line+"o\n2$o!\n")
}

// slowText tells every place of the box, byte by byte, then counts, then breaks the lines.
func slowText(l []api.Cell, r api.Rule) string {
	if len(l) == 0 {
		text, _ := rule.Text(r)
		return "x = 0, y = 0, rule = " + text + "\n!\n"
	}
	box, _ := plane.Bounds(l)
	var rows []string
	for y := box.Y0; y <= box.Y1; y++ {
		told := ""
		for x := box.X0; x <= box.X1; x++ {
			if slices.Contains(l, at(x, y)) {
				told += "o"
			} else {
				told += "b"
			}
		}
		rows = append(rows, strings.TrimRight(told, "b"))
	}
	lines, last := "", ""
	for _, p := range regexp.MustCompile(`o+|b+|\$+|!`).FindAllString(strings.Join(rows, "$")+"!", -1) {
		if len(p) > 1 {
			p = strconv.Itoa(len(p)) + p[:1]
		}
		if len(last)+len(p) > 70 {
			lines, last = lines+last+"\n", ""
		}
		last += p
	}
	text, _ := rule.Text(r)
	return "x = " + strconv.Itoa(box.X1-box.X0+1) + ", y = " + strconv.Itoa(box.Y1-box.Y0+1) +
		", rule = " + text + "\n" + lines + last + "\n"
}

func TestEncodeByHand(t *testing.T) {
	r := rand.New(rand.NewSource(1))
	for range 1500 {
		l, of := someCells(r, 1+r.Intn(30), 1+r.Intn(30), 150), someRule(r)
		wantText(t, "by hand", l, of, slowText(l, of))
	}
}

func TestEncodeTakesMaxCells(t *testing.T) {
	r := rand.New(rand.NewSource(2))
	l := make([]api.Cell, api.MaxCells)
	for i := range l {
		l[i] = at(r.Intn(2*edge)-edge, r.Intn(2*edge)-edge)
	}
	s, e := rle.Encode(l, life)
	if e != api.OK || len(s) <= api.MaxText {
		t.Errorf("%d bytes, error %d", len(s), e)
	}
	for i, line := range strings.Split(s, "\n") {
		if len(line) > 70 {
			t.Errorf("line %d has %d bytes", i, len(line))
		}
	}
}

// P3.3

func TestDecodeReadsTheHead(t *testing.T) {
	o := cells(at(0, 0))
	for _, s := range []struct {
		text   string
		wanted []api.Cell
		r      api.Rule
	}{
		{"x = 1, y = 1\no!", o, life},
		{"x = 1, y = 1, rule = B3/S23\no!", o, life},
		{"x = 1, y = 1, rule = B/S\no!", o, api.Rule{}},
		{"x = 1, y = 1, rule = B36/S125\no!", o, api.Rule{Born: 1<<3 | 1<<6, Live: 1<<1 | 1<<2 | 1<<5}},
		{"x = 0, y = 0\n!", nil, life},
		{"x = 0, y = 7, rule = B/S8\n!", nil, api.Rule{Live: 256}},
		{"x = 999999999999, y = 999999999999\no!", o, life},
		{"x = 999999999999, y = 999999999999\n999999999998bo999999999998$999999999998bo!",
			cells(at(999999999998, 0), at(999999999998, 999999999998)), life},
		{"#\nx = 1, y = 1\no!", o, life},
		{"#C of whatever \xff\x00\n#x = 9, y = 9\n##!\n#\r\nx = 1, y = 1\no!", o, life},
		{strings.Repeat("#\n", 5000) + "x = 1, y = 1\no!", o, life},
	} {
		wantCells(t, s.text, s.wanted, s.r)
	}
}

func TestDecodeRefusesOtherHeads(t *testing.T) {
	for _, line := range []string{
		"", " ", "\r", "\n", "x", "x = ", "x = 1", "x = 1,", "x = 1, y", "x = 1, y = ", "x = , y = 1", "x = 1, y = , rule = B3/S23",
		"x=1,y=1", "x = 1,y = 1", "x= 1, y = 1", "X = 1, Y = 1", "y = 1, x = 1", "x  = 1, y = 1", "x = 1 , y = 1", "x = 1, y = 1 ", " x = 1, y = 1",
		"x = 1, y = 1\r", "x = 1, y = 1,", "x = 1, y = 1, ", "x = 1, y = 1, rule", "x = 1, y = 1, rule = ", "x = 1, y = 1, rule=B3/S23",
		"x = 1, y = 1B3/S23", "x = 1, y = 1, B3/S23", "x = 1, y = 1, z = 1", "x = 1, y = 1, rule = B3/S23 ", "x = 1, y = 1, rule = B3/S23\r",
		"x = 1, y = 1, rule = B3/S23, rule = B3/S23", "x = 1, y = 1, rule = , rule = B3/S23", "x = 1, y = 1, rule =  B3/S23",
		"x = 1, y = 1, rule = B0/S", "x = 1, y = 1, rule = B03/S23", "x = 1, y = 1, rule = b3/s23", "x = 1, y = 1, rule = B3/S32", "x = 1, y = 1, rule = 23/3",
		"x = 01, y = 1", "x = 1, y = 01", "x = 00, y = 1", "x = 1, y = 00", "x = -1, y = 1", "x = +1, y = 1", "x = 1, y = -1", "x = 1.0, y = 1", "x = 1_0, y = 1", "x = 0x1, y = 1",
		"x = \u0661, y = 1", "x = 1, y = \u0661", "x = a, y = 1",
		"x = 1000000000000, y = 1", "x = 1, y = 1000000000000", "x = 1099511627776, y = 1", "x = 000000000001, y = 1", "x = 0000000000001, y = 1",
		"x = 18446744073709551617, y = 1", "x = " + strings.Repeat("9", 1000) + ", y = 1",
		" #\nx = 1, y = 1", "\n#\nx = 1, y = 1", "!", "o!", "x = 1, y = 1!", "x = 1, y = 1 o!",
	} {
		refuseCells(t, line+"\no!", api.ErrForm)
		refuseCells(t, "#\n"+line+"\no!", api.ErrForm)
		refuseCells(t, line+"\n", api.ErrForm)
		refuseCells(t, line, api.ErrForm)
	}
}

func TestDecodeRefusesTextsWithoutAHead(t *testing.T) {
	for _, s := range []string{"", "#", "#\n", "#\n#", "#\n#\n", "#o!", "#x = 1, y = 1", "x = 1, y = 1", "x = 1, y = 1, rule = B3/S23", "#\nx = 1, y = 1", "x = 1, y = 1\n#\no!", "x = 1, y = 1\n"} {
		refuseCells(t, s, api.ErrForm)
	}
}

func TestDecodeTellsTheHeadAheadOfTheBody(t *testing.T) {
	for _, body := range []string{"2o!", "5000o!", "?", "!"} {
		refuseCells(t, "x = 1, y = 1, rule = B0/S\n"+body, api.ErrForm)
		refuseCells(t, "x = 01, y = 1\n"+body, api.ErrForm)
	}
}

func TestDecodeTakesMaxText(t *testing.T) {
	good := head + "o!"
	for _, s := range []struct {
		name       string
		head, tail string
		fill       string
		wanted     api.Errno
	}{
		{"behind the !", good, "", "x", api.OK},
		{"blanks", head, "o!", " ", api.OK},
		{"a remark", "#", "\n" + good, "#", api.OK},
		{"many remarks", "#", "\n" + good, "\n#", api.OK},
		{"ends of rows", head + "o", "!", "$", api.OK},
		{"digits", head, "o!", "1", api.ErrForm},
		{"without a !", head, "", "b", api.ErrForm},
		{"too wide", head + "o", "!", "o", api.ErrRange},
		{"a remark alone", "#", "", "#", api.ErrForm},
		{"any bytes", "", "", "\xff", api.ErrForm},
	} {
		most := s.head + strings.Repeat(s.fill, (api.MaxText-len(s.head)-len(s.tail))/len(s.fill)) + s.tail
		for len(most) < api.MaxText {
			most += "!"
		}
		if s.wanted == api.OK {
			wantCells(t, most, cells(at(0, 0)), life)
		} else {
			refuseCells(t, most, s.wanted)
		}
		refuseCells(t, most+"!", api.ErrLong)
		refuseCells(t, most+most, api.ErrLong)
	}
	refuseCells(t, strings.Repeat("\x00", 10000000), api.ErrLong)
}

// P3.4

func TestDecodeReadsTheBody(t *testing.T) {
	for _, s := range []struct {
		body   string
		wanted []api.Cell
	}{
		{"!", nil},
		{"b!", nil},
		{"$!", nil},
		{"o!", cells(at(0, 0))},
		{"1o!", cells(at(0, 0))},
		{"oo!", row(0, 0, 2)},
		{"2o!", row(0, 0, 2)},
		{"1o1o!", row(0, 0, 2)},
		{"9o!", row(0, 0, 9)},
		{"bo!", cells(at(1, 0))},
		{"1bo!", cells(at(1, 0))},
		{"2b3o!", row(2, 0, 3)},
		{"8bo!", cells(at(8, 0))},
		{"o$o!", cells(at(0, 0), at(0, 1))},
		{"o1$o!", cells(at(0, 0), at(0, 1))},
		{"o2$o!", cells(at(0, 0), at(0, 2))},
		{"o$$o!", cells(at(0, 0), at(0, 2))},
		{"8$8bo!", cells(at(8, 8))},
		{"bo$2bo$3o!", cells(at(1, 0), at(2, 1), at(0, 2), at(1, 2), at(2, 2))},
		{"obobo!", cells(at(0, 0), at(2, 0), at(4, 0))},
		{"o8b$o!", cells(at(0, 0), at(0, 1))},
		{"o99b$o!", cells(at(0, 0), at(0, 1))},
		{"o99$!", cells(at(0, 0))},
		{"o99$99b!", cells(at(0, 0))},
		{"o99$99b$!", cells(at(0, 0))},
		{"999999999999b$o!", cells(at(0, 1))},
		{"o999999999999$999999999999b!", cells(at(0, 0))},
		{"o" + strings.Repeat("999999999999$", 1500) + "!", cells(at(0, 0))},
		{"o" + strings.Repeat("999999999999b", 1500) + "!", cells(at(0, 0))},
		{" o!", cells(at(0, 0))},
		{"\to!", cells(at(0, 0))},
		{"\no!", cells(at(0, 0))},
		{"\ro!", cells(at(0, 0))},
		{" \t\r\n\n\r\t 2o \t\r\n !", row(0, 0, 2)},
		{"o\nb\ro\t$ o!", cells(at(0, 0), at(2, 0), at(0, 1))},
		{"o!!", cells(at(0, 0))},
		{"o!o", cells(at(0, 0))},
		{"o!99o", cells(at(0, 0))},
		{"o!0", cells(at(0, 0))},
		{"o! \x00\xff#?\n", cells(at(0, 0))},
	} {
		wantCells(t, head+s.body, s.wanted, life)
		wantCells(t, "#\nx = 9, y = 9, rule = B1/S0\n"+s.body, s.wanted, api.Rule{Born: 2, Live: 1})
	}
}

func TestDecodeRefusesOtherPieces(t *testing.T) {
	for _, piece := range []string{
		"0o", "0b", "0$", "01o", "01b", "01$", "00o", "000000000001b",
		"1000000000000o", "1000000000000b", "1000000000000$", "0000000000001b", "18446744073709551617b", strings.Repeat("1", 100) + "b",
		"1 o", "1\no", "1\to", "1\ro", "2 2o", "1 b", "1 $", "1 ",
		"1!", "9!", "0!", "1 !", "-1o", "+1o", "-o", "1.0o", "1,o", "0x1o", "1_0b", "\u0661o", "\uff11o",
		"O", "B", "a", "x", ".", "*", "#", "#\n", "1#", "1x", ";", ",", "\x00", "\x0b", "\x0c", "\x85", "\xa0", "\u00a0", "\u2028", "\xff", "1\xff",
	} {
		for _, ahead := range []string{"", "o", "o\n", "2b$"} {
			refuseCells(t, head+ahead+piece+"!", api.ErrForm)
			refuseCells(t, head+ahead+piece+"o!", api.ErrForm)
			refuseCells(t, head+ahead+piece, api.ErrForm)
		}
	}
	for b := range 256 {
		if strings.IndexByte("bo$! \t\n\r0123456789", byte(b)) < 0 {
			refuseCells(t, head+"o"+string([]byte{byte(b)})+"!", api.ErrForm)
			refuseCells(t, head+"o1"+string([]byte{byte(b)})+"!", api.ErrForm)
		}
	}
}

func TestDecodeRefusesTextsThatAreOver(t *testing.T) {
	for _, body := range []string{"", " ", "\n", "o", "o\n", "o$", "2o", "b", "1", "o1", "o12", "o1 ", "$", "0", "999999999999"} {
		refuseCells(t, head+body, api.ErrForm)
	}
}

func TestDecodeRefusesCellsBeyondTheBox(t *testing.T) {
	for _, s := range []struct {
		size, body string
		wanted     api.Errno
	}{
		{"x = 3, y = 2", "3o$3o!", api.OK},
		{"x = 3, y = 2", "2bo$2bo!", api.OK},
		{"x = 3, y = 2", "4o!", api.ErrRange},
		{"x = 3, y = 2", "3oo!", api.ErrRange},
		{"x = 3, y = 2", "3bo!", api.ErrRange},
		{"x = 3, y = 2", "2b2o!", api.ErrRange},
		{"x = 3, y = 2", "b3o!", api.ErrRange},
		{"x = 3, y = 2", "$4o!", api.ErrRange},
		{"x = 3, y = 2", "$3bo!", api.ErrRange},
		{"x = 3, y = 2", "2$o!", api.ErrRange},
		{"x = 3, y = 2", "$$o!", api.ErrRange},
		{"x = 3, y = 2", "9$o!", api.ErrRange},
		{"x = 3, y = 2", "9b!", api.OK},
		{"x = 3, y = 2", "9$!", api.OK},
		{"x = 3, y = 2", "9$9b!", api.OK},
		{"x = 0, y = 0", "o!", api.ErrRange},
		{"x = 0, y = 1", "o!", api.ErrRange},
		{"x = 1, y = 0", "o!", api.ErrRange},
		{"x = 0, y = 0", "b$b!", api.OK},
		{"x = 999999999999, y = 1", "999999999998bo!", api.OK},
		{"x = 999999999999, y = 1", "999999999999bo!", api.ErrRange},
		{"x = 1, y = 999999999999", "999999999998$o!", api.OK},
		{"x = 1, y = 999999999999", "999999999999$o!", api.ErrRange},
		{"x = 9, y = 9", "999999999999o!", api.ErrRange},
		{"x = 9, y = 9", strings.Repeat("999999999999b", 1500) + "o!", api.ErrRange},
		{"x = 9, y = 9", strings.Repeat("999999999999$", 1500) + "o!", api.ErrRange},
	} {
		if _, _, e := rle.Decode(s.size + "\n" + s.body); e != s.wanted {
			t.Errorf("%s, %.50q: error %d; want %d", s.size, s.body, e, s.wanted)
		}
	}
}

func TestDecodeAtMaxCells(t *testing.T) {
	most := row(0, 0, api.MaxCells)
	wide := "x = 999999999999, y = 9\n"
	wantCells(t, wide+"4096o!", most, life)
	wantCells(t, wide+strings.Repeat("o", api.MaxCells)+"!", most, life)
	wantCells(t, wide+"4095oo9b$9b!", most, life)
	wantCells(t, wide+"o$4095o!", append(cells(at(0, 0)), row(0, 1, api.MaxCells-1)...), life)
	wantCells(t, wide+"4096o999999999b999999999999$!", most, life)
	for _, body := range []string{"4097o", "4096oo", "4096o$o", "4096ob4$o", "o4096o", "999999999999o", strings.Repeat("o", api.MaxCells+1)} {
		refuseCells(t, wide+body+"!", api.ErrFull)
	}
}

func TestDecodeTellsTheFirstThingThatIsWrong(t *testing.T) {
	for _, s := range []struct {
		size, body string
		wanted     api.Errno
	}{
		{"x = 1, y = 1", "2o", api.ErrRange},
		{"x = 1, y = 1", "2o?", api.ErrRange},
		{"x = 1, y = 1", "2o0o!", api.ErrRange},
		{"x = 1, y = 1", "?2o!", api.ErrForm},
		{"x = 1, y = 1", "02o!", api.ErrForm},
		{"x = 1, y = 1", "2 o!", api.ErrForm},
		{"x = 1, y = 1", "1000000000000o!", api.ErrForm},
		{"x = 1, y = 1", "!2o", api.OK},
		{"x = 9999, y = 1", "4097o", api.ErrFull},
		{"x = 9999, y = 1", "4097o?", api.ErrFull},
		{"x = 9999, y = 1", "?4097o!", api.ErrForm},
		{"x = 9999, y = 1", "4097o$o!", api.ErrFull},
		{"x = 9999, y = 1", "4096o$o!", api.ErrRange},
		{"x = 9999, y = 1", "4096o9999bo!", api.ErrRange},
		{"x = 4096, y = 1", "4097o!", api.ErrRange},
		{"x = 4097, y = 1", "4097o!", api.ErrFull},
		{"x = 4096, y = 2", "4096oo!", api.ErrRange},
		{"x = 4096, y = 2", "4096o$o!", api.ErrFull},
		{"x = 9999, y = 9", "o9999o4097o?", api.ErrRange},
		{"x = 9999, y = 9", "o4096o9999o?", api.ErrFull},
	} {
		if s.wanted != api.OK {
			refuseCells(t, s.size+"\n"+s.body, s.wanted)
		} else {
			wantCells(t, s.size+"\n"+s.body, nil, life)
		}
	}
}

var (
	slowHead  = regexp.MustCompile(`^(?:#[^\n]*\n)*x = (0|[1-9][0-9]{0,11}), y = (0|[1-9][0-9]{0,11})(?:, rule = (B1?2?3?4?5?6?7?8?/S0?1?2?3?4?5?6?7?8?))?\n`)
	slowPiece = regexp.MustCompile(`^[ \t\n\r]*(?:([1-9][0-9]{0,11})?([bo$])|(!))`)
)

// slowCells reads a text piece by piece, each by a pattern.
func slowCells(s string) ([]api.Cell, api.Rule, api.Errno) {
	if len(s) > api.MaxText {
		return nil, api.Rule{}, api.ErrLong
	}
	h := slowHead.FindStringSubmatch(s)
	if h == nil {
		return nil, api.Rule{}, api.ErrForm
	}
	s = s[len(h[0]):]
	width, _ := strconv.Atoi(h[1])
	height, _ := strconv.Atoi(h[2])
	r := life
	if h[3] != "" {
		r, _ = rule.Read(h[3])
	}
	var l []api.Cell
	x, y := 0, 0
	for {
		p := slowPiece.FindStringSubmatch(s)
		if p == nil {
			return nil, api.Rule{}, api.ErrForm
		}
		if p[3] == "!" {
			return l, r, api.OK
		}
		s = s[len(p[0]):]
		n := 1
		if p[1] != "" {
			n, _ = strconv.Atoi(p[1])
		}
		switch p[2] {
		case "$":
			x, y = 0, y+n
		case "o":
			if width < x+n || height <= y {
				return nil, api.Rule{}, api.ErrRange
			}
			if len(l)+n > api.MaxCells {
				return nil, api.Rule{}, api.ErrFull
			}
			l = append(l, row(x, y, n)...)
			x += n
		case "b":
			x += n
		}
	}
}

func checkDecode(t *testing.T, s string) {
	t.Helper()
	l, r, e := slowCells(s)
	if e != api.OK {
		refuseCells(t, s, e)
		return
	}
	wantCells(t, s, l, r)
}

// TestDecodeOfEveryChange takes good texts and leaves out, puts in and changes each of their bytes.
func TestDecodeOfEveryChange(t *testing.T) {
	const bytes = "bo$!0129 \t\n\r#x=,yruleBS/\x00\xff"
	for _, s := range []string{
		"x = 3, y = 3\nbo$2bo$3o!",
		"#C glider\n#\nx = 12, y = 10, rule = B3/S23\n 10o\t2b$\r\n b9o9$o!o",
		"x = 999999999999, y = 999999999999, rule = B/S\n999999999998bo999999999998$o!",
		"x = 5000, y = 2, rule = B12345678/S012345678\n4095o$o!",
		"x = 0, y = 0, rule = B3/S23\n!\n",
	} {
		checkDecode(t, s)
		for i := range len(s) {
			checkDecode(t, s[:i])
			checkDecode(t, s[i:])
			checkDecode(t, s[:i]+s[i+1:])
			for _, b := range []byte(bytes) {
				checkDecode(t, s[:i]+string([]byte{b})+s[i:])
				checkDecode(t, s[:i]+string([]byte{b})+s[i+1:])
			}
		}
	}
}

func TestDecodeByHand(t *testing.T) {
	r := rand.New(rand.NewSource(3))
	pieces := []string{"o", "o", "b", "$", "2o", "3b", "2$", "10o", "o$", "bo$", " ", "\n", "\r\n", "\t", "1", "0", "!", "?", "99b", "4000o", "200o"}
	for range 30000 {
		s := "x = " + strconv.Itoa(r.Intn(20)) + ", y = " + strconv.Itoa(r.Intn(20)) + "\n"
		if r.Intn(4) == 0 {
			s = "x = 9999, y = 99, rule = B2/S\n"
		}
		for range r.Intn(20) {
			// The pieces that are wrong stand last: most texts go on for a while.
			s += pieces[r.Intn(r.Intn(len(pieces))+1)]
		}
		checkDecode(t, s+"!")
	}
}

// Both ways

func TestDecodeReadsWhatEncodeTells(t *testing.T) {
	r := rand.New(rand.NewSource(4))
	for range 500 {
		l, of := someCells(r, 1+r.Intn(60), 1+r.Intn(60), 300), someRule(r)
		s, e := rle.Encode(l, of)
		box, _ := plane.Bounds(l)
		wanted, e2 := plane.Shift(l, -box.X0, -box.Y0)
		if e != api.OK || e2 != api.OK {
			t.Fatalf("errors %d and %d", e, e2)
		}
		wantCells(t, s, wanted, of)
		wantText(t, "again", wanted, of, s)
	}
}

// What holds everywhere: lists.

func scribble(l []api.Cell) {
	l = l[:cap(l)]
	for i := range l {
		l[i] = at(-77, -77)
	}
}

func TestEncodeLeavesListsAsTheyAre(t *testing.T) {
	for _, all := range [][]api.Cell{
		cells(at(6, 0), at(5, 0), at(7, 0), at(6, 0), at(9, 9), at(8, 8)),
		cells(at(5, 0), at(6, 0), at(7, 0), at(0, 1), at(9, 9), at(8, 8)),
	} {
		before := slices.Clone(all)
		s, e := rle.Encode(all[:4], life)
		refuseText(t, "no rule", all[:4], api.Rule{Born: 1}, api.ErrRange)
		if e != api.OK || !slices.Equal(all, before) {
			t.Errorf("error %d, handed in %v, left behind %v", e, before, all)
		}
		told := strings.Clone(s)
		scribble(all)
		if s != told {
			t.Errorf("the text changes with what was handed in")
		}
		wantText(t, "again", before[:4], life, told)
	}
}

func TestDecodeAnswersNewMemory(t *testing.T) {
	const s = head + "bo$2bo$3o!"
	wanted := cells(at(1, 0), at(2, 1), at(0, 2), at(1, 2), at(2, 2))
	first, _, _ := rle.Decode(s)
	second, _, _ := rle.Decode(s)
	scribble(first)
	if !slices.Equal(second, wanted) {
		t.Errorf("two answers share memory: %v", second)
	}
	wantCells(t, s, wanted, life)
}
