package keys_test

import (
	"math"
	"math/rand"
	"slices"
	"strconv"
	"testing"
	"unsafe"

	"lifelodge/api"
	"lifelodge/keys"
)

func wantRevoked(t *testing.T, from api.Table, name string, wanted []api.Key) api.Table {
	t.Helper()
	got, n := keys.Revoke(from, name)
	if n != len(from.Keys)-len(wanted) || !sameTable(got, api.Table{Serial: from.Serial, Keys: wanted}) {
		t.Errorf("Revoke(%v, %q): %v, %d; want %v, %d", from, name, got, n, wanted, len(from.Keys)-len(wanted))
	}
	return got
}

// within is whether a text is made of bytes of another one: these, not some that are equal.
func within(part, whole string) bool {
	if part == "" || whole == "" {
		return false
	}
	p, w := uintptr(unsafe.Pointer(unsafe.StringData(part))), uintptr(unsafe.Pointer(unsafe.StringData(whole)))
	return w <= p && p < w+uintptr(len(whole))
}

// leavesTheTable does something to a table that is a piece of a longer list: the list must be as it was, and what is written into one answer is to be seen nowhere else.
func leavesTheTable(t *testing.T, what string, do func(api.Table) api.Table) {
	t.Helper()
	all := many(12).Keys
	before := slices.Clone(all)
	for _, n := range []int{0, 1, 5, 11, 12} {
		from := api.Table{Serial: 7, Keys: all[:n]}
		one, two := do(from), do(from)
		if !slices.Equal(all, before) || from.Serial != 7 || len(from.Keys) != n {
			t.Errorf("%s of %d keys changed the list: %v", what, n, all)
		}
		wanted := slices.Clone(two.Keys)
		scribble(one.Keys)
		if !slices.Equal(all, before) || !slices.Equal(two.Keys, wanted) {
			t.Errorf("%s of %d keys: the answer shares memory", what, n)
		}
		scribble(all)
		if !slices.Equal(two.Keys, wanted) {
			t.Errorf("%s of %d keys: the answer shares memory with the list", what, n)
		}
		copy(all, before)
		wantOwnTexts(t, what, two.Keys, before)
	}
}

// scribble writes into all that a list has, its spare room too.
func scribble(l []api.Key) {
	l = l[:cap(l)]
	for i := range l {
		l[i] = key("?", "?", -i)
	}
}

func wantOwnTexts(t *testing.T, what string, answer, given []api.Key) {
	t.Helper()
	for _, a := range answer {
		for _, g := range given {
			if within(a.Text, g.Text) || within(a.Name, g.Name) {
				t.Errorf("%s: %v has a text of the table that was handed in", what, a)
			}
		}
	}
}

// P9.3

func TestRevoke(t *testing.T) {
	a, b, c := key("!0k1", "ab", read), key("!1k1", "cd", write), key("!2k1", "ab", both)
	d, e := key("!3k1", "e", read), key("!4k1", "cd", both)
	l := table(5, a, b, c, d, e)
	wantRevoked(t, l, "ab", []api.Key{b, d, e})
	wantRevoked(t, l, "cd", []api.Key{a, c, d})
	wantRevoked(t, l, "e", []api.Key{a, b, c, e})
	wantRevoked(t, l, "x", l.Keys)
	wantRevoked(t, table(5, a), "ab", nil)
	wantRevoked(t, table(5, a, c), "ab", nil)
	wantRevoked(t, table(5, b, a, c), "ab", []api.Key{b})
	wantRevoked(t, table(5, a, c, b), "ab", []api.Key{b})
	wantRevoked(t, table(5, a, b, c), "cd", []api.Key{a, c})
}

func TestRevokeOfNoKeys(t *testing.T) {
	for _, name := range []string{"", "ab"} {
		wantRevoked(t, api.Table{}, name, nil)
		wantRevoked(t, api.Table{Serial: 3, Keys: []api.Key{}}, name, nil)
	}
}

// TestRevokeWholeNames: a name that another one begins with is another name, and so is one of other letters.
func TestRevokeWholeNames(t *testing.T) {
	a, ab, abc := key("1", "a", read), key("2", "ab", read), key("3", "abc", read)
	none, big, nought, text := key("4", "", read), key("5", "AB", read), key("6", "ab\x00", read), key("ab", "x", read)
	l := table(9, a, ab, abc, none, big, nought, text, ab)
	wantRevoked(t, l, "ab", []api.Key{a, abc, none, big, nought, text})
	wantRevoked(t, l, "a", []api.Key{ab, abc, none, big, nought, text, ab})
	wantRevoked(t, l, "abc", []api.Key{a, ab, none, big, nought, text, ab})
	wantRevoked(t, l, "", []api.Key{a, ab, abc, big, nought, text, ab})
	wantRevoked(t, l, "ab\x00", []api.Key{a, ab, abc, none, big, text, ab})
	wantRevoked(t, l, "b", l.Keys)
	wantRevoked(t, l, "1", l.Keys)
	wantRevoked(t, l, " ab", l.Keys)
	wantRevoked(t, table(0, none, none), "", nil)
}

// TestRevokeKeepsTheSerial: a text that was revoked is never minted again.
func TestRevokeKeepsTheSerial(t *testing.T) {
	for _, serial := range []int{0, 1, last, last + 1, -1, math.MinInt, math.MaxInt} {
		wantRevoked(t, table(serial, key("x", "ab", read)), "ab", nil)
		wantRevoked(t, table(serial, key("x", "ab", read)), "cd", []api.Key{key("x", "ab", read)})
	}
	now, first, _ := keys.Mint(api.Table{}, "ab", read, 5)
	now = wantRevoked(t, now, "ab", nil)
	refuseFind(t, now, first, 0, api.ErrNone)
	now = wantMinted(t, now, "ab", read, 5, slowText(1, 5))
	refuseFind(t, now, first, 0, api.ErrNone)
}

// TestRevokeTakesAllTables: more keys than may be minted, the same one twice, rights that are none.
func TestRevokeTakesAllTables(t *testing.T) {
	odd := key("\xff", "\x00\xfe", math.MinInt)
	wantRevoked(t, table(1, odd, odd, key("", "", 0), odd), "\x00\xfe", []api.Key{key("", "", 0)})
	wantRevoked(t, table(1, odd, odd), "", []api.Key{odd, odd})
	l := many(5000)
	var left []api.Key
	for i, k := range l.Keys {
		if i%5 != 2 {
			left = append(left, k)
		}
	}
	wantRevoked(t, l, "n2", left)
}

// TestRevokeMakesRoom: behind it a full table mints again.
func TestRevokeMakesRoom(t *testing.T) {
	full := many(api.MaxKeys)
	refuseMint(t, full, read, api.ErrFull)
	less, n := keys.Revoke(full, "n0")
	if n != 7 {
		t.Errorf("Revoke: %d; want 7", n)
	}
	for range n {
		less = wantMinted(t, less, "new", read, 1, slowText(less.Serial, 1))
	}
	refuseMint(t, less, read, api.ErrFull)
}

func TestRevokeLeavesTheTable(t *testing.T) {
	for _, name := range []string{"n0", "n1", "n4", "x", ""} {
		leavesTheTable(t, "Revoke", func(from api.Table) api.Table {
			got, _ := keys.Revoke(from, name)
			return got
		})
	}
}

// TestManyDeeds mints, finds and revokes by turns, against a list that is gone through by hand.
func TestManyDeeds(t *testing.T) {
	r := rand.New(rand.NewSource(9))
	for range 200 {
		var now api.Table
		var model []api.Key
		serial := 0
		for range 80 {
			name := "n" + strconv.Itoa(r.Intn(6))
			switch deed := r.Intn(10); {
			case deed < 6 && len(model) == api.MaxKeys:
				refuseMint(t, now, both, api.ErrFull)
			case deed < 6:
				rights, draw := 1+r.Intn(3), int(r.Uint64())
				text := slowText(serial, draw)
				now = wantMinted(t, now, name, rights, draw, text)
				model, serial = append(model, key(text, name, rights)), serial+1
			case deed < 7:
				var left []api.Key
				for _, k := range model {
					if k.Name != name {
						left = append(left, k)
					}
				}
				now, model = wantRevoked(t, now, name, left), left
			case len(model) > 0:
				k := model[r.Intn(len(model))]
				wantFound(t, now, k.Text, k.Rights, k.Name)
			}
		}
		if !sameTable(now, api.Table{Serial: serial, Keys: model}) {
			t.Errorf("the table is %v; want serial %d, %v", now, serial, model)
		}
	}
}
