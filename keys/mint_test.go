package keys_test

import (
	"math"
	"math/big"
	"slices"
	"strconv"
	"strings"
	"testing"

	"lifelodge/api"
	"lifelodge/keys"
	"lifelodge/speech"
)

const (
	last  = 1<<31 - 1 // the greatest Serial of a table that mints
	both  = api.RightRead | api.RightWrite
	read  = api.RightRead
	write = api.RightWrite
)

func key(text, name string, rights int) api.Key {
	return api.Key{Text: text, Name: name, Rights: rights}
}

func table(serial int, l ...api.Key) api.Table { return api.Table{Serial: serial, Keys: l} }

// many is a table of n different keys.
func many(n int) api.Table {
	t := api.Table{Serial: n}
	for i := range n {
		t.Keys = append(t.Keys, key("!"+strconv.Itoa(i)+"k1", "n"+strconv.Itoa(i%5), 1+i%3))
	}
	return t
}

func sameTable(a, b api.Table) bool { return a.Serial == b.Serial && slices.Equal(a.Keys, b.Keys) }

// wantMinted asks that the table has just this key more, and a Serial that is one more.
func wantMinted(t *testing.T, from api.Table, name string, rights, draw int, text string) api.Table {
	t.Helper()
	got, s, e := keys.Mint(from, name, rights, draw)
	wanted := api.Table{Serial: from.Serial + 1, Keys: slices.Concat(from.Keys, []api.Key{key(text, name, rights)})}
	if e != api.OK || s != text || !sameTable(got, wanted) {
		t.Errorf("Mint(serial %d, %d keys; %q, %d, %d): %v, %q, error %d; want %v, %q",
			from.Serial, len(from.Keys), name, rights, draw, got, s, e, wanted, text)
	}
	return got
}

func refuseMint(t *testing.T, from api.Table, rights int, wanted api.Errno) {
	t.Helper()
	for _, draw := range []int{0, 7, -1} {
		got, s, e := keys.Mint(from, "ab", rights, draw)
		if e != wanted || s != "" || got.Serial != 0 || len(got.Keys) != 0 {
			t.Errorf("Mint(serial %d, %d keys; rights %d, draw %d): %v, %q, error %d; want error %d alone",
				from.Serial, len(from.Keys), rights, draw, got, s, e, wanted)
		}
	}
}

// slowText is a key's text by numbers without an end, cut to 64 bits by hand.
func slowText(serial, draw int) string {
	whole := new(big.Int).Lsh(big.NewInt(1), 64)
	number := func(digits string) *big.Int {
		n, _ := new(big.Int).SetString(digits, 16)
		return n
	}
	fold := func(z *big.Int, down uint) *big.Int { return new(big.Int).Xor(z, new(big.Int).Rsh(z, down)) }
	times := func(z *big.Int, digits string) *big.Int {
		z = new(big.Int).Mul(z, number(digits))
		return z.Mod(z, whole)
	}
	z := times(big.NewInt(int64(serial)), "9E3779B97F4A7C15")
	// Mod answers what is never below 0, as numbers without a sign want it.
	z = new(big.Int).Mod(z.Add(z, big.NewInt(int64(draw))), whole)
	z = times(fold(z, 30), "BF58476D1CE4E5B9")
	z = times(fold(z, 27), "94D049BB133111EB")
	return "!" + strconv.Itoa(serial) + "k" + fold(z, 31).Text(16)
}

// drawFor goes back from a text's number to the draw that makes it, with a Serial.
func drawFor(number uint64, serial int) int {
	// What undoes z ^ z>>n: the top n bits are as they were, and each turn makes n more so.
	unfold := func(z uint64, down int) uint64 {
		was := z
		for range 64 / down {
			was = z ^ was>>down
		}
		return was
	}
	// The inverse of an odd number: each turn doubles how many of its bits are right.
	under := func(odd uint64) uint64 {
		x := odd
		for range 6 {
			x *= 2 - odd*x
		}
		return x
	}
	z := unfold(number, 31) * under(0x94D049BB133111EB)
	z = unfold(z, 27) * under(0xBF58476D1CE4E5B9)
	return int(unfold(z, 30) - uint64(serial)*0x9E3779B97F4A7C15)
}

// P9.1

// TestMintTexts: numbers that are known from outside, those of a generator of this kind.
func TestMintTexts(t *testing.T) {
	for _, s := range []struct {
		serial, draw int
		text         string
	}{
		{0, 0, "!0k0"},
		{1, 0, "!1ke220a8397b1dcdaf"},
		{2, 0, "!2k6e789e6aa1b965f4"},
		{3, 0, "!3k6c45d188009454f"}, // 15 digits: without the nought ahead
		{4, 0, "!4kf88bb8a8724c81ec"},
		{5, 0, "!5k1b39896a51a8749b"},
		{1, 1234567, "!1k" + strconv.FormatUint(6457827717110365317, 16)},
		{2, 1234567, "!2k" + strconv.FormatUint(3203168211198807973, 16)},
		{3, 1234567, "!3k" + strconv.FormatUint(9817491932198370423, 16)},
		{4, 1234567, "!4k" + strconv.FormatUint(4593380528125082431, 16)},
		{5, 1234567, "!5k" + strconv.FormatUint(16408922859458223821, 16)},
	} {
		wantMinted(t, table(s.serial), "ab", read, s.draw, s.text)
	}
}

func TestMintTextsAtTheEdges(t *testing.T) {
	serials := []int{0, 1, 2, 9, 10, 99, 100, 4095, 4096, 1 << 30, last - 1, last}
	draws := []int{0, 1, -1, 2, -2, math.MaxInt32, math.MinInt32, 1 << 32, -1 << 32, 1 << 62, math.MaxInt, math.MaxInt - 1, math.MinInt, math.MinInt + 1}
	for _, serial := range serials {
		for _, draw := range draws {
			wantMinted(t, table(serial), "ab", both, draw, slowText(serial, draw))
		}
	}
}

// TestMintFewDigits: a number is told by as many digits as it has, and 0 by one.
func TestMintFewDigits(t *testing.T) {
	numbers := []uint64{math.MaxUint64, 0xabcdef}
	for digits := range 16 {
		numbers = append(numbers, 1<<(4*digits)-1, 1<<(4*digits), 0xa<<(4*digits))
	}
	for _, serial := range []int{0, 1, 77, last} {
		head := "!" + strconv.Itoa(serial) + "k"
		for _, n := range numbers {
			wantMinted(t, table(serial), "ab", read, drawFor(n, serial), head+strconv.FormatUint(n, 16))
		}
		wantMinted(t, table(serial), "ab", read, drawFor(0, serial), head+"0")
		wantMinted(t, table(serial), "ab", read, drawFor(0xf, serial), head+"f")
		wantMinted(t, table(serial), "ab", read, drawFor(0x10, serial), head+"10")
	}
}

// TestMintedTextsMayBeTold: whatever is minted can be asked for.
func TestMintedTextsMayBeTold(t *testing.T) {
	for _, serial := range []int{0, 1, last} {
		for _, n := range []uint64{0, 1, math.MaxUint64} {
			if _, s, e := keys.Mint(table(serial), "ab", read, drawFor(n, serial)); e != api.OK || !speech.Keyed(s) {
				t.Errorf("Mint(serial %d): %q, error %d: no key", serial, s, e)
			}
		}
	}
}

func TestMintLaysKeysBehind(t *testing.T) {
	var now api.Table
	for i := range api.MaxKeys {
		now = wantMinted(t, now, "n"+strconv.Itoa(i%3), 1+i%3, 40, slowText(i, 40))
	}
	if now.Serial != api.MaxKeys || len(now.Keys) != api.MaxKeys {
		t.Errorf("minted %d keys, serial %d", len(now.Keys), now.Serial)
	}
	refuseMint(t, now, read, api.ErrFull)
}

// TestMintKeepsWhatIsThere: the keys of a table that nobody minted stay as they are, whatever they are.
func TestMintKeepsWhatIsThere(t *testing.T) {
	from := table(1, key("", "", 0), key("!1ke220a8397b1dcdaf", "ab", -1), key("x", "ab", 4), key("x", "ab", 4), key("\x00", "\xff", math.MinInt))
	wantMinted(t, from, "ab", write, 0, "!1ke220a8397b1dcdaf")
	wantMinted(t, api.Table{Serial: 1, Keys: []api.Key{}}, "ab", write, 0, "!1ke220a8397b1dcdaf")
}

func TestMintRights(t *testing.T) {
	for _, rights := range []int{1, 2, 3} {
		wantMinted(t, table(0), "ab", rights, 0, "!0k0")
	}
	for _, rights := range []int{0, 4, 5, 6, 7, 8, 1 << 8, 1<<8 + 1, 1<<32 + 1, math.MaxInt, -1, -2, -3, -4, math.MinInt, math.MinInt + 1} {
		refuseMint(t, table(0), rights, api.ErrRange)
		refuseMint(t, many(3), rights, api.ErrRange)
	}
}

func TestMintSerials(t *testing.T) {
	for _, serial := range []int{0, 1, last - 1, last} {
		wantMinted(t, table(serial), "ab", read, 5, slowText(serial, 5))
	}
	for _, serial := range []int{-1, -2, math.MinInt32, math.MinInt, last + 1, last + 2, 1 << 32, 1<<32 + 1, math.MaxInt} {
		refuseMint(t, table(serial), read, api.ErrRange)
	}
	full, _, _ := keys.Mint(table(last), "ab", read, 0)
	refuseMint(t, full, read, api.ErrRange)
}

func TestMintMaxKeys(t *testing.T) {
	for _, n := range []int{0, 1, api.MaxKeys - 1} {
		wantMinted(t, many(n), "ab", read, 0, slowText(n, 0))
	}
	for _, n := range []int{api.MaxKeys, api.MaxKeys + 1, 2 * api.MaxKeys, 5000} {
		refuseMint(t, many(n), read, api.ErrFull)
		refuseMint(t, many(n), both, api.ErrFull)
	}
	// Empty keys are keys, and a Serial says nothing of how many there are.
	refuseMint(t, table(0, make([]api.Key, api.MaxKeys)...), read, api.ErrFull)
	wantMinted(t, table(api.MaxKeys), "ab", read, 0, slowText(api.MaxKeys, 0))
}

func TestMintTellsRangeAheadOfFull(t *testing.T) {
	full := many(api.MaxKeys)
	for _, rights := range []int{0, 4, -1} {
		refuseMint(t, full, rights, api.ErrRange)
	}
	for _, serial := range []int{-1, last + 1} {
		full.Serial = serial
		refuseMint(t, full, read, api.ErrRange)
		refuseMint(t, full, 0, api.ErrRange)
	}
	full.Serial = last
	refuseMint(t, full, read, api.ErrFull)
}

// TestMintTakesAllNames: what a name is made of is not asked here.
func TestMintTakesAllNames(t *testing.T) {
	names := []string{"", " ", "a", "A", "a b", "!0k0", "\n", "\x00", "\xff\xfe", "\xc3", "ä\u2028", strings.Repeat("a", api.MaxName+1), strings.Repeat("x", 100000)}
	for b := range 256 {
		names = append(names, string([]byte{byte(b)}))
	}
	for _, name := range names {
		got := wantMinted(t, many(2), name, read, 9, slowText(2, 9))
		wantFound(t, got, slowText(2, 9), read, name)
	}
}

func TestMintIgnoresTheName(t *testing.T) {
	_, a, _ := keys.Mint(table(8), "ab", read, 3)
	_, b, _ := keys.Mint(many(8), "", both, 3)
	if a != b || a == "" {
		t.Errorf("Mint: %q and %q; want the same text by Serial and draw alone", a, b)
	}
}

func TestMintLeavesTheTable(t *testing.T) {
	leavesTheTable(t, "Mint", func(from api.Table) api.Table {
		got, _, e := keys.Mint(from, "ab", read, 11)
		if e != api.OK {
			t.Errorf("Mint: error %d", e)
		}
		return got
	})
	from := many(api.MaxKeys)
	refuseMint(t, from, read, api.ErrFull)
	refuseMint(t, from, 0, api.ErrRange)
	if !sameTable(from, many(api.MaxKeys)) {
		t.Errorf("a refused Mint changed the table: %v", from)
	}
}

// TestMintedNamesAreCopies: a name that is a piece of a line would keep all of it.
func TestMintedNamesAreCopies(t *testing.T) {
	line := strings.Repeat("z", 5000)
	got, _, e := keys.Mint(api.Table{}, line[100:104], read, 0)
	if e != api.OK || got.Keys[0].Name != "zzzz" || within(got.Keys[0].Name, line) {
		t.Errorf("Mint: %v, error %d; want a name of its own", got, e)
	}
}
