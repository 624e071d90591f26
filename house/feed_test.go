package house_test

import (
	"slices"
	"strconv"
	"strings"
	"testing"
	"unsafe"

	"lifelodge/api"
	"lifelodge/house"
)

// P12.2

func refuseFeed(t *testing.T, h *house.House, tenant int, s string, wanted api.Errno) {
	t.Helper()
	had := lookAt(h)
	if e := h.Feed(tenant, s); e != wanted {
		t.Errorf("Feed(%d, %d bytes): error %d; want %d", tenant, len(s), e, wanted)
	}
	if now := lookAt(h); !had.same(now) {
		t.Errorf("Feed(%d, %d bytes) was refused, and left %v; there was %v", tenant, len(s), now, had)
	}
}

func TestFeedTenants(t *testing.T) {
	for _, n := range []int{1, 2, 5, api.Tenants} {
		h := boot(t, api.Config{Room: 100, Quotas: make([]int, n)})
		for _, tenant := range append(farOff(), n, n+1) {
			for _, s := range []string{"", "clean\n", strings.Repeat("x", api.MaxFeed+1)} {
				refuseFeed(t, h, tenant, s, api.ErrRange)
			}
		}
		if h.Turn() {
			t.Errorf("a line of no tenant is answered")
		}
		for tenant := range n {
			feed(t, h, tenant, "clean\n")
		}
		wantTick(t, h, "1"+strings.Repeat(" 1", n))
		turnAll(h)
		for tenant := range n {
			wantTold(t, h, tenant, "count 0")
		}
	}
}

func TestFeedNothing(t *testing.T) {
	h := boot(t, may(9, 9))
	feed(t, h, 1, "", "", "cle", "", "an", "", "\n", "")
	wantTick(t, h, "1 0 1")
	turn(t, h, 1)
	wantTold(t, h, 1, "count 0")
	feed(t, h, 1, "")
	if h.Turn() {
		t.Errorf("no bytes are a line")
	}
}

func TestFeedMaxFeed(t *testing.T) {
	h := boot(t, may(9, 9))
	for _, n := range []int{api.MaxFeed + 1, api.MaxFeed + 2, 10 * api.MaxFeed} {
		for _, s := range []string{strings.Repeat("x", n), strings.Repeat("\n", n), strings.Repeat("x", n-1) + "\n", "clean\n" + strings.Repeat("x", n-6)} {
			refuseFeed(t, h, 0, s, api.ErrLong)
		}
	}
	if h.Turn() {
		t.Errorf("a line that was refused is answered")
	}
	// Nothing of what was refused is kept.
	feed(t, h, 0, "clean\n")
	feed(t, h, 0, "count a\n"+strings.Repeat("x", api.MaxFeed-8))
	refuseFeed(t, h, 0, strings.Repeat("\n", api.MaxFeed+1), api.ErrLong)
	wantTick(t, h, "1 2 0")
	feed(t, h, 0, "\n"+strings.Repeat("y", api.MaxFeed-1), "\n")
	turn(t, h, 4)
	wantTold(t, h, 0, "count 0", "no 6", "no 1", "no 1")
	feed(t, h, 1, strings.Repeat("\n", api.MaxFeed))
	if n := turnAll(h); n != api.MaxFeed {
		t.Errorf("%d lines came out of %d", n, api.MaxFeed)
	}
}

func TestFeedALineInPieces(t *testing.T) {
	for _, pieces := range [][]string{
		{"new a B3/S23\nbox a\n"}, {"new a B3/S23", "\nbox a\n"}, {"new a B3/S23\n", "box a\n"}, {"n", "ew a B3/S2", "3\nbox", " ", "a", "\n"},
		{"new a B3/S23\nbox a", "\n"}, strings.Split("new a B3/S23\nbox a\n", ""),
	} {
		h := boot(t, may(9, 9))
		for _, s := range pieces {
			// The other one's pieces are its own.
			feed(t, h, 0, s)
			feed(t, h, 1, "clean\nclea")
			feed(t, h, 1, "n\n")
		}
		turnAll(h)
		wantTold(t, h, 0, "ok", "none")
		if l := unwrap(t, h.Out(1)); !slices.Equal(l, slices.Repeat([]string{"count 0"}, 2*len(pieces))) {
			t.Errorf("the other one was told %q", l)
		}
	}
}

// A line that has not ended waits for nothing.
func TestFeedNoLine(t *testing.T) {
	h := boot(t, may(9, 9))
	for range 20 {
		feed(t, h, 0, "clean ")
	}
	wantTick(t, h, "1 0 0")
	if h.Turn() {
		t.Errorf("a line that has not ended is answered")
	}
	feed(t, h, 0, "\nclean\n")
	turn(t, h, 2)
	wantTold(t, h, 0, "no 2", "count 0")
}

// counted is lines that are told apart: each has the name of a universe that is there, or that is not.
func counted(n int) (lines string, wanted []string) {
	for i := range n {
		if i%3 == 1 || i%7 == 5 {
			lines, wanted = lines+"count a\n", append(wanted, "count 0")
		} else {
			lines, wanted = lines+"count b\n", append(wanted, "no 6")
		}
	}
	return lines, wanted
}

func TestFeedMoreThanMayWait(t *testing.T) {
	for _, n := range []int{1, api.MaxQueue - 1, api.MaxQueue, api.MaxQueue + 1, api.MaxQueue + 2, 3 * api.MaxQueue, 100, 900} {
		h := boot(t, may(9, 9))
		ask(t, h, 1, "new a B3/S23")
		lines, wanted := counted(n)
		feed(t, h, 1, lines)
		for left := n; left >= 0; left-- {
			wantTick(t, h, strconv.Itoa(n-left+1)+" 0 "+strconv.Itoa(min(left, api.MaxQueue)))
			if h.Turn() != (left > 0) {
				t.Fatalf("a turn with %d lines left", left)
			}
		}
		if l := unwrap(t, h.Out(1))[1:]; !slices.Equal(l, wanted) {
			t.Errorf("%d lines at once were told %q; want %q", n, l, wanted)
		}
	}
}

// What comes while lines stay behind comes behind these.
func TestFeedBehindWhatStaysBehind(t *testing.T) {
	h := boot(t, may(9, 9))
	ask(t, h, 0, "new a B3/S23")
	lines, wanted := counted(200)
	come := strings.SplitAfter(strings.TrimSuffix(lines, "\n"), "\n")
	come[len(come)-1] += "\n"
	for i := 0; len(come) > 0; i++ {
		n := min(i%23, len(come))
		feed(t, h, 0, strings.Join(come[:n], ""))
		come = come[n:]
		for range i % 17 {
			h.Turn()
		}
	}
	turnAll(h)
	if l := unwrap(t, h.Out(0))[1:]; !slices.Equal(l, wanted) {
		t.Errorf("told %q; want %q", l, wanted)
	}
}

// Lines go where they wait when one was popped, not when the tenant sends more, or when they all were.
func TestFeedLinesGoThereAtOnce(t *testing.T) {
	h := boot(t, may(9, 9))
	feed(t, h, 0, strings.Repeat("clean\n", api.MaxQueue+2))
	feed(t, h, 1, strings.Repeat("clean\n", api.MaxQueue+1))
	for i, wanted := range []string{"8 8", "8 8", "8 8", "8 8", "8 7", "7 7", "7 6", "6 6"} {
		wantTick(t, h, strconv.Itoa(i+1)+" "+wanted)
		turn(t, h, 1)
	}
}

// A tenant with many lines comes as often as others, and no more.
func TestFeedManyLinesTakeNoTurnsOfOthers(t *testing.T) {
	h := boot(t, may(9, 9, 9))
	feed(t, h, 0, strings.Repeat("clean\n", 100))
	feed(t, h, 2, strings.Repeat("clean\n", 3))
	for i, wanted := range [][]int{{1, 0, 0}, {1, 0, 1}, {2, 0, 1}, {2, 0, 2}, {3, 0, 2}, {3, 0, 3}, {4, 0, 3}, {5, 0, 3}, {6, 0, 3}} {
		turn(t, h, 1)
		for tenant, n := range wanted {
			if l := unwrap(t, h.Out(tenant)); len(l) != n {
				t.Errorf("behind turn %d tenant %d was told %d answers; want %d", i, tenant, len(l), n)
			}
		}
	}
}

func TestFeedKeepsNoText(t *testing.T) {
	h := boot(t, may(99, 9))
	bytes := []byte("new a B3/S23\nset a 0,0 1,0 2,0\nstep a 1\nbox a\nbox a\nbox a\nbox a\nbox a\nbox a\nbox a\nbo")
	if e := h.Feed(0, unsafe.String(unsafe.SliceData(bytes), len(bytes))); e != api.OK {
		t.Fatalf("Feed: error %d", e)
	}
	for i := range bytes {
		bytes[i] = 'x'
	}
	feed(t, h, 0, "x a\n")
	turnAll(h)
	wantTold(t, h, 0, append([]string{"ok", "ok", "ok"}, slices.Repeat([]string{"box 1 -1 1 1"}, 8)...)...)
}

// So many lines that to move them up one by one each time would not come to an end.
func TestFeedVeryManyLines(t *testing.T) {
	h := boot(t, may(9, 9))
	const feeds = 60
	for range feeds {
		feed(t, h, 0, strings.Repeat("\n", api.MaxFeed))
	}
	feed(t, h, 1, "clean\n")
	turn(t, h, feeds*api.MaxFeed+1)
	if h.Turn() {
		t.Errorf("a turn too many")
	}
	wantTold(t, h, 1, "count 0")
	if n := len(h.Out(0)); n != feeds*api.MaxFeed*api.Frame {
		t.Errorf("%d bytes were told", n)
	}
}
