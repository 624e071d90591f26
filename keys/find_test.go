package keys_test

import (
	"math"
	"slices"
	"strconv"
	"strings"
	"testing"

	"lifelodge/api"
	"lifelodge/keys"
)

func wantFound(t *testing.T, in api.Table, text string, rights int, name string) {
	t.Helper()
	if got, e := keys.Find(in, text, rights); e != api.OK || got != name {
		t.Errorf("Find(%d keys, %q, %d): %.80q, error %d; want %.80q", len(in.Keys), text, rights, got, e, name)
	}
}

func refuseFind(t *testing.T, in api.Table, text string, rights int, wanted api.Errno) {
	t.Helper()
	if got, e := keys.Find(in, text, rights); e != wanted || got != "" {
		t.Errorf("Find(%d keys, %q, %d): %.80q, error %d; want error %d alone", len(in.Keys), text, rights, got, e, wanted)
	}
}

// P9.2

func TestFindEachKey(t *testing.T) {
	for _, n := range []int{1, 2, api.MaxKeys, api.MaxKeys + 1, 1000} {
		l := many(n)
		for _, k := range l.Keys {
			wantFound(t, l, k.Text, k.Rights, k.Name)
			wantFound(t, l, strings.Clone(k.Text), 0, k.Name)
		}
	}
}

func TestFindWhatWasMinted(t *testing.T) {
	var now api.Table
	var texts []string
	for i := range api.MaxKeys {
		var s string
		now, s, _ = keys.Mint(now, "n"+strconv.Itoa(i), 1+i%3, -i)
		texts = append(texts, s)
	}
	for i, s := range texts {
		wantFound(t, now, s, 1+i%3, "n"+strconv.Itoa(i))
	}
}

func TestFindNone(t *testing.T) {
	for _, rights := range []int{0, 1, 2, 3, 4, -1, math.MaxInt, math.MinInt} {
		for _, text := range []string{"", "!", "!0k0", "ab", "\x00"} {
			refuseFind(t, api.Table{}, text, rights, api.ErrNone)
			refuseFind(t, api.Table{Serial: 1, Keys: []api.Key{}}, text, rights, api.ErrNone)
		}
		l := table(2, key("!0kab", "ab", both), key("!1kcd", "cd", both))
		// Not by a name, a piece, a beginning, more than the text, or other letters.
		for _, text := range []string{"", "ab", "cd", "!", "!0k", "!0ka", "0kab", "!0kabc", "!0kab ", " !0kab", "!0kAB", "!0kab\x00", "!0kcd", "!1kab"} {
			refuseFind(t, l, text, rights, api.ErrNone)
		}
	}
}

func TestFindIgnoresSpareRoom(t *testing.T) {
	l := []api.Key{key("a", "one", both), key("b", "two", both), key("c", "three", both)}
	refuseFind(t, table(3, l[:1]...), "b", read, api.ErrNone)
	refuseFind(t, table(3, l[1:2]...), "a", read, api.ErrNone)
	refuseFind(t, table(3, l[1:2]...), "c", read, api.ErrNone)
	refuseFind(t, table(3, l[:0]...), "a", read, api.ErrNone)
	wantFound(t, table(3, l[1:2]...), "b", read, "two")
}

// TestFindRights asks all rights of all keys, those too that Mint would not make.
func TestFindRights(t *testing.T) {
	all := []int{4, 5, 6, 7, 8, 1 << 40, 1<<40 | 3, math.MaxInt, -1, -2, -3, -4, math.MinInt, math.MinInt + 1, math.MinInt + 3}
	for _, has := range append([]int{0, 1, 2, 3}, all...) {
		l := table(1, key("x", "others", both), key("!0k0", "ab", has))
		for _, asked := range append([]int{0, 1, 2, 3}, all...) {
			lacks := false
			for bit := range 64 {
				lacks = lacks || asked>>bit&1 == 1 && has>>bit&1 == 0
			}
			if lacks {
				refuseFind(t, l, "!0k0", asked, api.ErrRight)
			} else {
				wantFound(t, l, "!0k0", asked, "ab")
			}
		}
	}
}

func TestFindRightsByHand(t *testing.T) {
	l := table(3, key("r", "reads", read), key("w", "writes", write), key("b", "does", both))
	for _, s := range []struct {
		text   string
		rights int
		name   string
		e      api.Errno
	}{
		{"r", 0, "reads", api.OK}, {"r", 1, "reads", api.OK}, {"r", 2, "", api.ErrRight}, {"r", 3, "", api.ErrRight},
		{"w", 0, "writes", api.OK}, {"w", 1, "", api.ErrRight}, {"w", 2, "writes", api.OK}, {"w", 3, "", api.ErrRight},
		{"b", 0, "does", api.OK}, {"b", 1, "does", api.OK}, {"b", 2, "does", api.OK}, {"b", 3, "does", api.OK},
		{"b", 4, "", api.ErrRight}, {"b", 5, "", api.ErrRight}, {"b", 7, "", api.ErrRight}, {"b", -1, "", api.ErrRight},
		{"b", math.MinInt, "", api.ErrRight}, {"b", math.MaxInt, "", api.ErrRight}, {"b", 1<<32 | 1, "", api.ErrRight},
		{"x", 0, "", api.ErrNone}, {"x", 4, "", api.ErrNone}, {"x", -1, "", api.ErrNone},
	} {
		if s.e == api.OK {
			wantFound(t, l, s.text, s.rights, s.name)
		} else {
			refuseFind(t, l, s.text, s.rights, s.e)
		}
	}
}

// TestFindTheFirst: a key that stands behind one of the same text opens nothing, not even what the first one doesn't.
func TestFindTheFirst(t *testing.T) {
	l := table(4, key("x", "zero", both), key("!0k0", "one", read), key("!0k0", "two", both), key("!0k0", "three", write))
	wantFound(t, l, "!0k0", 0, "one")
	wantFound(t, l, "!0k0", read, "one")
	refuseFind(t, l, "!0k0", write, api.ErrRight)
	refuseFind(t, l, "!0k0", both, api.ErrRight)
	slices.Reverse(l.Keys)
	wantFound(t, l, "!0k0", 0, "three")
	wantFound(t, l, "!0k0", write, "three")
	refuseFind(t, l, "!0k0", read, api.ErrRight)
}

func TestFindTheEmptyText(t *testing.T) {
	l := table(2, key("a", "one", both), key("", "two", read))
	wantFound(t, l, "", read, "two")
	refuseFind(t, l, "", write, api.ErrRight)
	refuseFind(t, table(1, key("a", "", both)), "", 0, api.ErrNone)
}

// TestFindTakesAllBytes: neither texts nor names need be what Mint and Named make.
func TestFindTakesAllBytes(t *testing.T) {
	long := strings.Repeat("x", 100000)
	l := table(-5, key("\xff\x00\n", "\x00\xfe", both), key(long, long, both), key("e", "", read))
	wantFound(t, l, "\xff\x00\n", both, "\x00\xfe")
	wantFound(t, l, long, both, long)
	wantFound(t, l, "e", read, "")
	refuseFind(t, l, long[1:], both, api.ErrNone)
	refuseFind(t, l, "\xff\x00", both, api.ErrNone)
}

// TestFindIgnoresTheSerial: nor does it mind how many keys there are.
func TestFindIgnoresTheSerial(t *testing.T) {
	for _, serial := range []int{-1, 0, last, last + 1, math.MinInt, math.MaxInt} {
		wantFound(t, table(serial, key("!0k0", "ab", read)), "!0k0", read, "ab")
	}
}

func TestFindLeavesTheTable(t *testing.T) {
	from := many(5)
	for _, text := range []string{"!3k1", "", "x"} {
		for rights := -1; rights < 5; rights++ {
			keys.Find(from, text, rights)
		}
	}
	if !sameTable(from, many(5)) {
		t.Errorf("Find changed the table: %v", from)
	}
	whole := strings.Repeat("y", 1000)
	name, _ := keys.Find(table(1, key("a", whole[10:15], read)), "a", read)
	if name != "yyyyy" || within(name, whole) {
		t.Errorf("Find: %q lies in the table's own text", name)
	}
}
