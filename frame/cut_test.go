package frame_test

import (
	"math/rand"
	"runtime"
	"slices"
	"strings"
	"testing"

	"lifelodge/api"
	"lifelodge/frame"
)

const (
	tooLong = "\x00"
	most    = api.MaxLine
)

func of(n int) string { return strings.Repeat("x", n) }

func wantCut(t *testing.T, what, kept, come string, lines []string, rest string) {
	t.Helper()
	l, k := frame.Cut(kept, come)
	if !slices.Equal(l, lines) || k != rest {
		t.Errorf("%s: Cut(%d bytes, %d bytes): %.100q, %.100q (%d bytes); want %.100q, %.100q (%d bytes)",
			what, len(kept), len(come), l, k, len(k), lines, rest, len(rest))
	}
}

// slowCut goes byte by byte, and knows of a line only what it has of it and how long it is.
func slowCut(kept, come string) ([]string, string) {
	var lines []string
	var line []byte
	long := 0
	for _, b := range []byte(kept + come) {
		switch {
		case b != 10:
			if long++; long <= most+1 {
				line = append(line, b)
			}
		case long > most:
			lines, line, long = append(lines, tooLong), nil, 0
		default:
			lines, line, long = append(lines, string(line)), nil, 0
		}
	}
	return lines, string(line)
}

// cutAll feeds a text to Cut, piece by piece.
func cutAll(s string, size func() int) ([]string, string) {
	var lines []string
	kept := ""
	for s != "" {
		n := min(size(), len(s))
		var l []string
		l, kept = frame.Cut(kept, s[:n])
		lines, s = append(lines, l...), s[n:]
	}
	return lines, kept
}

// P7.1

func TestCutTellsLines(t *testing.T) {
	for _, s := range []struct {
		kept, come string
		lines      []string
		rest       string
	}{
		{"", "", nil, ""},
		{"", "a", nil, "a"},
		{"a", "", nil, "a"},
		{"a", "b", nil, "ab"},
		{"", "\n", []string{""}, ""},
		{"", "\n\n", []string{"", ""}, ""},
		{"", "\n\n\n\n", []string{"", "", "", ""}, ""},
		{"a", "\n", []string{"a"}, ""},
		{"a", "\n\n", []string{"a", ""}, ""},
		{"a", "\nb", []string{"a"}, "b"},
		{"", "a\n", []string{"a"}, ""},
		{"", "\na", []string{""}, "a"},
		{"", "a\nb", []string{"a"}, "b"},
		{"", "a\nb\n", []string{"a", "b"}, ""},
		{"ab", "c\n\nde\nf", []string{"abc", "", "de"}, "f"},
		{"a", "b\nab\na", []string{"ab", "ab"}, "a"},
		{" a ", " b \r\n \n", []string{" a  b \r", " "}, ""},
		{"", "a\rb\r", nil, "a\rb\r"},
		{"", "\x00\n", []string{"\x00"}, ""},
		{"", "a\x00b\n\x00\x00\n", []string{"a\x00b", "\x00\x00"}, ""},
		{"\x00", "\x00", nil, "\x00\x00"},
		{"\xff\xc3", "\xa4\n\xe2\x80\xa8\u0085\n\x80", []string{"\xff\xc3\xa4", "\xe2\x80\xa8\u0085"}, "\x80"},
		{"", "new a B3/S23\nset a 0,0 1,0 2,0\nstep", []string{"new a B3/S23", "set a 0,0 1,0 2,0"}, "step"},
		{"step", " a 1\nbox a\n", []string{"step a 1", "box a"}, ""},
	} {
		wantCut(t, "a text", s.kept, s.come, s.lines, s.rest)
	}
}

func TestCutTakesAllBytes(t *testing.T) {
	for b := range 256 {
		s := string([]byte{byte(b)})
		if s == "\n" {
			continue
		}
		wantCut(t, "a byte", "", s+"\n", []string{s}, "")
		wantCut(t, "a byte", s, s+"\n"+s, []string{s + s}, s)
	}
}

func TestCutTellsLongLines(t *testing.T) {
	for n, wanted := range map[int]string{
		0: "", 1: "x", most - 1: of(most - 1), most: of(most),
		most + 1: tooLong, most + 2: tooLong, 2 * most: tooLong, 100 * most: tooLong,
	} {
		line := of(n)
		wantCut(t, "ended", "", line+"\n", []string{wanted}, "")
		wantCut(t, "ended, and more", "", line+"\nab", []string{wanted}, "ab")
		wantCut(t, "between others", "", "a\n"+line+"\nb\nc", []string{"a", wanted, "b"}, "c")
		wantCut(t, "twice", "", line+"\n"+line+"\n", []string{wanted, wanted}, "")
		wantCut(t, "not ended", "", line, nil, line[:min(n, most+1)])
		wantCut(t, "not ended, behind another", "a", "\n"+line, []string{"a"}, line[:min(n, most+1)])
		wantCut(t, "ended, then not ended", "", line+"\n"+line, []string{wanted}, line[:min(n, most+1)])
	}
}

func TestCutGoesOnFromWhatWasKept(t *testing.T) {
	for _, n := range []int{0, 1, most - 1, most, most + 1} {
		kept := of(n)
		wantCut(t, "nothing comes", kept, "", nil, kept)
		for _, more := range []int{0, 1, 2, most - 1, most, most + 1, most + 2, 3 * most} {
			whole := kept + strings.Repeat("y", more)
			line := whole
			if len(whole) > most {
				line = tooLong
			}
			come := whole[n:]
			wantCut(t, "more comes", kept, come, nil, whole[:min(len(whole), most+1)])
			wantCut(t, "more comes, and it ends", kept, come+"\n", []string{line}, "")
			wantCut(t, "it ends, and others come", kept, come+"\n\nab\nc", []string{line, "", "ab"}, "c")
		}
		line := kept
		if n > most {
			line = tooLong
		}
		wantCut(t, "byte 10 first", kept, "\n", []string{line}, "")
		wantCut(t, "byte 10 first, then as much", kept, "\n"+kept, []string{line}, kept)
		wantCut(t, "byte 10 several times", kept, "\n\n\n", []string{line, "", ""}, "")
	}
}

func TestCutKeepsTheFirstBytes(t *testing.T) {
	var b strings.Builder
	for i := 0; b.Len() < 3*most; i++ {
		b.WriteByte(byte(11 + i%240))
	}
	s := b.String()
	wantCut(t, "the first bytes", "", s, nil, s[:most+1])
	wantCut(t, "the first bytes", s[:100], s[100:], nil, s[:most+1])
	wantCut(t, "the first bytes", s[:most], s[most:], nil, s[:most+1])
	wantCut(t, "the first bytes", s[:most+1], s[most+1:], nil, s[:most+1])
	wantCut(t, "all of the line", s[:100], s[100:most]+"\n", []string{s[:most]}, "")
}

// TestCutTellsTheSameInAnyPieces has a text with lines of all lengths that are an edge.
func TestCutTellsTheSameInAnyPieces(t *testing.T) {
	var b strings.Builder
	for _, n := range []int{3, 0, 0, most - 1, most, 1, most + 1, most + 2, 0, 2*most + 7, 5, most, most + 3} {
		b.WriteString(of(n) + "\n")
	}
	for _, tail := range []string{"", "a", of(most), of(most + 1), of(most + 2), of(2*most + 9)} {
		s := b.String() + tail
		lines, kept := slowCut("", s)
		wantCut(t, "one piece", "", s, lines, kept)
		for _, size := range []int{1, 2, 7, 127, most - 1, most, most + 1, most + 2, api.MaxFeed, len(s) - 1} {
			l, k := cutAll(s, func() int { return size })
			if !slices.Equal(l, lines) || k != kept {
				t.Errorf("pieces of %d: %d lines, %d bytes kept; want %d, %d", size, len(l), len(k), len(lines), len(kept))
			}
		}
	}
	short := "ab\n\n\x00\nc\nd e f\n\n\ng"
	lines, kept := slowCut("", short)
	for size := 1; size <= len(short); size++ {
		if l, k := cutAll(short, func() int { return size }); !slices.Equal(l, lines) || k != kept {
			t.Errorf("pieces of %d: %q, %q", size, l, k)
		}
	}
}

func TestCutByHand(t *testing.T) {
	r := rand.New(rand.NewSource(1))
	for range 400 {
		var b strings.Builder
		for range r.Intn(6) {
			n := r.Intn(20)
			if r.Intn(3) == 0 {
				n = most - 3 + r.Intn(7)
			}
			for range n {
				b.WriteByte("a\x00\r\xff "[r.Intn(5)])
			}
			b.WriteString(strings.Repeat("\n", r.Intn(4)))
		}
		s := b.String()
		lines, kept := slowCut("", s)
		wantCut(t, "by hand", "", s, lines, kept)
		l, k := cutAll(s, func() int { return r.Intn(most) })
		if !slices.Equal(l, lines) || k != kept {
			t.Errorf("some pieces of %d bytes: %d lines, %d bytes kept; want %d, %d", len(s), len(l), len(k), len(lines), len(kept))
		}
	}
}

func TestCutEndsWhateverWasKept(t *testing.T) {
	for _, kept := range []string{
		"\n", "\n\n", "a\n", "a\nb", "\nb", of(most + 2), of(100 * most), of(most+2) + "\n", "\n" + of(most+2),
		of(most) + "\n" + of(most+1), strings.Repeat("\n", 10000), strings.Repeat("a\n", 10000), strings.Repeat("\x00\xff\n", 10000),
	} {
		for _, come := range []string{"", "\n", "a", "a\nb", of(most + 2), of(most+2) + "\n", "\n" + of(most+2)} {
			frame.Cut(kept, come)
		}
	}
}

func TestCutTakesManyBytes(t *testing.T) {
	const many = 1 << 20
	l, kept := frame.Cut("", strings.Repeat("\n", many))
	if len(l) != many || kept != "" {
		t.Errorf("%d lines, %d bytes kept", len(l), len(kept))
	}
	l, kept = frame.Cut("", of(many)+"\n"+of(many))
	if len(l) != 1 || l[0] != tooLong || len(kept) != most+1 {
		t.Errorf("%d lines, %d bytes kept", len(l), len(kept))
	}
}

func TestCutAnswersNewMemory(t *testing.T) {
	a, _ := frame.Cut("", "a\nb\nc")
	b, _ := frame.Cut("", "a\nb\nc")
	for i := range a {
		a[i] = "z"
	}
	_ = append(a, "z")
	if !slices.Equal(b, []string{"a", "b"}) {
		t.Errorf("%q", b)
	}
	wantCut(t, "again", "", "a\nb\nc", []string{"a", "b"}, "c")
}

func heap() uint64 {
	var m runtime.MemStats
	runtime.GC()
	runtime.ReadMemStats(&m)
	return m.HeapAlloc
}

// TestCutHoldsOnToNoMoreThanItTells: what is told of a great text must not keep the text in memory.
func TestCutHoldsOnToNoMoreThanItTells(t *testing.T) {
	const great = 32 << 20
	ahead := heap()
	lines, kept := frame.Cut("", "ab\n"+of(great)+"\ncd\n"+of(great))
	if now := heap(); now > ahead+great/2 {
		t.Errorf("%d bytes are held", now-ahead)
	}
	if !slices.Equal(lines, []string{"ab", tooLong, "cd"}) || len(kept) != most+1 {
		t.Errorf("%q, %d bytes kept", lines, len(kept))
	}
}
