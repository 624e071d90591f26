package frame_test

import (
	"math/rand"
	"slices"
	"strings"
	"testing"

	"lifelodge/api"
	"lifelodge/frame"
)

const room = api.Frame - 2

// text is n bytes, 0, 1, 10 and 255 among them, no two parts of it alike.
func text(n int) string {
	b := make([]byte, n)
	for i := range b {
		b[i] = byte(255 - i*7 + i/256)
	}
	return string(b)
}

// texts are those at the edges of frames, and some whose bytes could be taken for marks, counts and noughts.
func texts() []string {
	l := []string{
		"ok", "no 9", "at 0 0\nx = 1, y = 1, rule = B3/S23\no!\n",
		"\x00", "\x01", "\n", "\xff", "\x00\x01\n\xff", "a\x00", "\x00a", "\x00\x00\x00",
		"\xc3\xa4\xff\xfe\xe2\x80",
	}
	for _, n := range []int{0, 1, 2, 10, 124, 125, 126, 127, 128, 129, 250, 251, 252, 253, 254, 256, 377, 378, 379, 504, 505, 3000, 3780, 20001} {
		l = append(l, text(n))
		for _, b := range []string{"\x00", "\x01", "\n", "\xff", "\x7e", "\x00\x00x", "\x01\x7e"} {
			l = append(l, strings.Repeat(b, n)[:n])
		}
	}
	return l
}

// frameOf is one frame, as it is told, right or wrong.
func frameOf(mark, count byte, rest string) string {
	return string([]byte{mark, count}) + rest + strings.Repeat("\x00", room-len(rest))
}

// slowWrap lays the text into noughts, byte by byte.
func slowWrap(s string) string {
	frames := max(1, (len(s)+room-1)/room)
	b := make([]byte, frames*api.Frame)
	for i := range len(s) {
		f := i / room * api.Frame
		b[f+1]++
		b[f+2+i%room] = s[i]
	}
	for f := range frames - 1 {
		b[f*api.Frame] = 1
	}
	return string(b)
}

// slowUnwrap takes whatever looks like texts, and asks whether their frames are these.
func slowUnwrap(s string) ([]string, api.Errno) {
	var l []string
	last := ""
	again := ""
	for f := 0; f+api.Frame <= len(s); f += api.Frame {
		n := min(int(s[f+1]), room)
		last += s[f+2 : f+2+n]
		if s[f] != 1 {
			again += slowWrap(last)
			l, last = append(l, last), ""
		}
	}
	if again != s {
		return nil, api.ErrForm
	}
	return l, api.OK
}

func wantTexts(t *testing.T, what, s string, wanted []string) {
	t.Helper()
	l, e := frame.Unwrap(s)
	if e != api.OK || !slices.Equal(l, wanted) {
		t.Errorf("%s: Unwrap of %d bytes: %.200q, error %d; want %.200q", what, len(s), l, e, wanted)
	}
}

func refuse(t *testing.T, what, s string) {
	t.Helper()
	l, e := frame.Unwrap(s)
	if e != api.ErrForm || len(l) != 0 {
		t.Errorf("%s: Unwrap of %d bytes: %.200q, error %d; want error %d and no texts", what, len(s), l, e, api.ErrForm)
	}
}

// P7.2

func TestWrapTellsFrames(t *testing.T) {
	long := text(300)
	for _, s := range []struct{ text, wanted string }{
		{"", strings.Repeat("\x00", 128)},
		{"a", "\x00\x01a" + strings.Repeat("\x00", 125)},
		{"ok", "\x00\x02ok" + strings.Repeat("\x00", 124)},
		{"\x00", "\x00\x01" + strings.Repeat("\x00", 126)},
		{long[:125], "\x00\x7d" + long[:125] + "\x00"},
		{long[:126], "\x00\x7e" + long[:126]},
		{long[:127], "\x01\x7e" + long[:126] + "\x00\x01" + long[126:127] + strings.Repeat("\x00", 125)},
		{long[:251], "\x01\x7e" + long[:126] + "\x00\x7d" + long[126:251] + "\x00"},
		{long[:252], "\x01\x7e" + long[:126] + "\x00\x7e" + long[126:252]},
		{long[:253], "\x01\x7e" + long[:126] + "\x01\x7e" + long[126:252] + "\x00\x01" + long[252:253] + strings.Repeat("\x00", 125)},
	} {
		if got := frame.Wrap(s.text); got != s.wanted {
			t.Errorf("Wrap of %d bytes: %q; want %q", len(s.text), got, s.wanted)
		}
	}
}

func TestWrapByHand(t *testing.T) {
	for n := range 1200 {
		if s := text(n); frame.Wrap(s) != slowWrap(s) {
			t.Errorf("Wrap of %d bytes: %q", n, frame.Wrap(s))
		}
	}
	for _, s := range texts() {
		if frame.Wrap(s) != slowWrap(s) {
			t.Errorf("Wrap of %d bytes: %q", len(s), frame.Wrap(s))
		}
	}
}

// P7.3

func TestUnwrapTellsWhatWasWrapped(t *testing.T) {
	for _, s := range texts() {
		wantTexts(t, "one", frame.Wrap(s), []string{s})
		wantTexts(t, "one twice", frame.Wrap(s)+frame.Wrap(s), []string{s, s})
		wantTexts(t, "between empty ones", frame.Wrap("")+frame.Wrap(s)+frame.Wrap(""), []string{"", s, ""})
	}
	all, frames := texts(), ""
	for _, s := range all {
		frames += frame.Wrap(s)
	}
	wantTexts(t, "all", frames, all)
	for n := range 1200 {
		wantTexts(t, "each length", frame.Wrap(text(n))+frame.Wrap("z"), []string{text(n), "z"})
	}
}

func TestUnwrapOfNothing(t *testing.T) {
	wantTexts(t, "no frames", "", nil)
	wantTexts(t, "an empty text", strings.Repeat("\x00", 128), []string{""})
	wantTexts(t, "empty texts", strings.Repeat("\x00", 3*128), []string{"", "", ""})
}

func TestUnwrapRefusesOtherLengths(t *testing.T) {
	for _, s := range []string{"", "a", text(126), text(127), text(253)} {
		frames := frame.Wrap(s) + frame.Wrap("z")
		for n := range frames {
			if n%api.Frame != 0 {
				refuse(t, "cut", frames[:n])
				refuse(t, "cut ahead", frames[n:])
			}
		}
		for _, more := range []string{"\x00", "\n", "a", "\x00\x00", strings.Repeat("\x00", 127), strings.Repeat("\x00", 129)} {
			refuse(t, "more behind", frames+more)
			refuse(t, "more alone", more)
		}
	}
}

// TestUnwrapOfTextsCut has frames cut at each byte: just behind a last frame there are texts.
func TestUnwrapOfTextsCut(t *testing.T) {
	all, frames := []string{text(300), "", text(126), text(127), "z"}, ""
	ends := map[int]int{0: 0}
	for i, s := range all {
		frames += frame.Wrap(s)
		ends[len(frames)] = i + 1
	}
	for n := range len(frames) + 1 {
		if whole, ok := ends[n]; ok {
			wantTexts(t, "cut behind a last frame", frames[:n], all[:whole])
		} else {
			refuse(t, "cut", frames[:n])
		}
	}
}

// TestUnwrapOfMarksAndCounts has each mark with each count, in frames of noughts and in full ones.
func TestUnwrapOfMarksAndCounts(t *testing.T) {
	for mark := range 256 {
		for count := range 256 {
			for _, rest := range []string{"", strings.Repeat("x", room), strings.Repeat("x", min(count, room))} {
				f := frameOf(byte(mark), byte(count), rest)
				last := mark == 0 && count <= room && len(rest) <= count
				if last {
					wantTexts(t, "a last frame", f, []string{f[2 : 2+count]})
					wantTexts(t, "a last frame ahead", f+frame.Wrap("z"), []string{f[2 : 2+count], "z"})
				} else {
					refuse(t, "no last frame", f)
				}
				if more := mark == 1 && count == room; more {
					wantTexts(t, "a frame with more", f+frame.Wrap("z"), []string{f[2:] + "z"})
				} else if !last {
					refuse(t, "no frame ahead", f+frame.Wrap("z"))
				}
				full := frameOf(1, room, text(room))
				if last && count > 0 {
					wantTexts(t, "a last frame behind", full+f, []string{text(room) + f[2:2+count]})
				} else {
					refuse(t, "no last frame behind", full+f)
				}
			}
		}
	}
}

func TestUnwrapRefusesNoughtsThatAreNone(t *testing.T) {
	for _, n := range []int{0, 1, 2, 63, 124, 125, 127, 128, 251} {
		whole := frame.Wrap(text(n))
		padding := (room - n%room) % room
		for at := len(whole) - padding; at < len(whole); at++ {
			for _, v := range []byte{1, 10, ' ', '0', 'x', 128, 255} {
				b := []byte(whole)
				b[at] = v
				refuse(t, "no nought", string(b))
				refuse(t, "no nought, more behind", string(b)+frame.Wrap("z"))
				refuse(t, "no nought, more ahead", frame.Wrap("z")+string(b))
			}
		}
	}
}

func TestUnwrapRefusesOtherFrames(t *testing.T) {
	full, last, empty := frameOf(1, room, text(room)), frame.Wrap("ab"), frame.Wrap("")
	for _, s := range []struct{ name, frames string }{
		{"the last frame is missing", full},
		{"the last frame is missing behind two", full + full},
		{"the last frame of a second text is missing", last + full},
		{"an empty frame behind a full one", full + empty},
		{"an empty frame behind two full ones", full + full + empty},
		{"an empty frame behind a full one, between texts", last + full + empty + last},
		{"a frame that is not full, with more", frameOf(1, 125, text(125)) + last},
		{"an empty frame with more", frameOf(1, 0, "") + last},
		{"an empty frame with more, behind a full one", full + frameOf(1, 0, "") + last},
		{"a mark of 2 behind a text", last + frameOf(2, 2, "ab")},
		{"a mark that is a digit", frameOf('0', 2, "ab")},
		{"a count that is a digit", frameOf(0, '2', "ab") + frameOf(0, '2', text(room))},
		{"a byte ahead of the frames", ("\x00" + last + last)[:256]},
		{"any bytes", strings.Repeat("\xff", 1280)},
		{"a text that is in no frame", strings.Repeat("ok\n", 128)},
	} {
		refuse(t, s.name, s.frames)
	}
}

func TestUnwrapByHand(t *testing.T) {
	r := rand.New(rand.NewSource(2))
	formed := 0
	for range 20000 {
		s := ""
		for range r.Intn(5) {
			s += frame.Wrap(text(r.Intn(300)))
		}
		b := []byte(s)
		for range r.Intn(3) {
			if len(b) > 0 {
				f := r.Intn(len(b) / api.Frame)
				b[f*api.Frame+r.Intn(5)] = []byte{0, 1, 2, 125, 126, 127, 255}[r.Intn(7)]
			}
		}
		l, e := frame.Unwrap(string(b))
		wanted, wantedError := slowUnwrap(string(b))
		if e != wantedError || !slices.Equal(l, wanted) {
			t.Fatalf("%q: %q, error %d; want %q, error %d", b, l, e, wanted, wantedError)
		}
		if e == api.OK {
			formed++
		}
	}
	if formed < 1000 || formed > 19000 {
		t.Errorf("%d of 20000 are formed: too many of one kind", formed)
	}
}

func TestUnwrapTakesManyFrames(t *testing.T) {
	const many = 1 << 14
	l, e := frame.Unwrap(strings.Repeat("\x00", many*api.Frame))
	if e != api.OK || len(l) != many {
		t.Errorf("%d texts, error %d", len(l), e)
	}
	long := text(1 << 21)
	wantTexts(t, "a long text", frame.Wrap(long), []string{long})
	refuse(t, "a long text without its last frame", strings.Repeat(frameOf(1, room, text(room)), many))
}

func TestUnwrapAnswersNewMemory(t *testing.T) {
	s := frame.Wrap("a") + frame.Wrap("b") + frame.Wrap("c")
	a, _ := frame.Unwrap(s)
	b, _ := frame.Unwrap(s)
	for i := range a {
		a[i] = "z"
	}
	_ = append(a, "z")
	if !slices.Equal(b, []string{"a", "b", "c"}) {
		t.Errorf("%q", b)
	}
	wantTexts(t, "again", s, []string{"a", "b", "c"})
}
