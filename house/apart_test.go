package house_test

import (
	"math"
	"math/rand"
	"slices"
	"strconv"
	"strings"
	"testing"

	"lifelodge/api"
	"lifelodge/house"
)

// P12.6

// script is a tenant's bytes: what it may have decides on some of the answers, and its draw on others.
func script(draw int) string {
	return "new a B3/S23\nset a 0,0 1,0 2,0 2,1 1,2\nlease a 3\nstep " + keyText(0, draw) + " 4\nget a\ncopy a b\nstep b 100\nbox b\ncount b\n" +
		"what\nnew c B36/S23\nset c 1,1 5,5 -3,9\nstep c 7\nclean\ndrop b\nclean\nlease c 1\nset " + keyText(1, draw) + " 0,0\nget c\n" +
		strings.Repeat("x", api.MaxLine+1) + "\nstep a 500\nget a\nclean\n\nstep a 20\nbox a\nnew d B1/S1\nset d 9000,-9000\nclean\ncount d\n"
}

// alone is what a tenant is told of its bytes in a house of its own.
func alone(t *testing.T, quota, draw int, s string) string {
	t.Helper()
	outs, e := house.Run(may(quota), []int{draw}, append(pieces(0, s, api.MaxFeed), turned(1000)))
	if e != api.OK {
		t.Fatalf("Run: error %d", e)
	}
	return outs[0]
}

// pieces is bytes of a tenant that come so many at a time.
func pieces(tenant int, s string, n int) (l []api.Deed) {
	for len(s) > n {
		l, s = append(l, fed(tenant, s[:n])), s[n:]
	}
	return append(l, fed(tenant, s))
}

// crowd is what others do in a house, who may have some things each.
type crowd struct {
	quota, draw int
	bytes       string
}

func crowds() []crowd {
	return []crowd{
		{0, 0, ""}, {50, 0, ""}, {3000, 0, ""}, {0, 5, script(5)}, {20, 0, script(0)}, {60, 1, script(1)}, {3000, 0, script(0)}, {3000, -9, script(-9)},
		{500, 0, strings.Repeat("new a B3/S23\nset a 0,0 1,0 2,0 2,1 1,2\nstep a 100\ndrop a\nclean\n", 30)},
		{30, 0, strings.Repeat("new a B3/S23\nset a 0,0 1,0 2,0 2,1 1,2\nstep a 4\n", 40)},
		{9, 0, strings.Repeat("\n", 700)}, {9, 0, strings.Repeat("x", 7000)}, {9, 0, "clean\n" + strings.Repeat("\x00", 7000) + "\nclean\n"},
	}
}

// One tenant, at each place among others, is told what it is told alone, whatever these may have, draw and say.
func TestOthersAreNotToBeSeen(t *testing.T) {
	told := map[string]struct{}{}
	for quota, draw := range map[int]int{0: 0, 10: 7, 40: 0, 60: math.MinInt, 100: 7, 250: 0, 3000: -1} {
		wanted := alone(t, quota, draw, script(draw))
		told[wanted] = struct{}{}
		for i, x := range crowds() {
			for place := range 3 {
				quotas, draws := []int{x.quota, x.quota, x.quota}, []int{x.draw, x.draw + 1, x.draw + 2}
				quotas[place], draws[place] = quota, draw
				wantAmong(t, i, place, quotas, draws, x.bytes, script(draw), wanted)
			}
		}
	}
	if len(told) < 6 {
		t.Errorf("%d different answers: too little was tried", len(told))
	}
}

// wantAmong wants the tenant at a place to be told the same, whether others' bytes come ahead of its own, behind these,
// or among them.
func wantAmong(t *testing.T, i, place int, quotas, draws []int, theirs, mine, wanted string) {
	t.Helper()
	var ahead, among, behind []api.Deed
	for tenant := range quotas {
		if tenant == place {
			continue
		}
		ahead = append(ahead, pieces(tenant, theirs, api.MaxFeed)...)
		behind = append(behind, pieces(tenant, theirs, api.MaxFeed)...)
	}
	ahead = append(append(ahead, turned(20)), pieces(place, mine, api.MaxFeed)...)
	behind = append(append(pieces(place, mine, api.MaxFeed), turned(9), ticked()), behind...)
	for k := 0; k*700 < max(len(theirs), len(mine)); k++ {
		for tenant := range quotas {
			s := theirs
			if tenant == place {
				s = mine
			}
			among = append(among, fed(tenant, s[min(k*700, len(s)):min(k*700+700, len(s))]))
		}
		among = append(among, turned(4+k))
	}
	for k, l := range [][]api.Deed{ahead, among, behind} {
		outs, e := house.Run(may(quotas...), draws, append(l, turned(1000), turned(1000)))
		if e != api.OK {
			t.Fatalf("Run: error %d", e)
		}
		if outs[place] != wanted {
			t.Fatalf("crowd %d, order %d, quotas %v, draws %v, place %d: told %q; alone it is told %q",
				i, k, quotas, draws, place, unwrap(t, outs[place]), unwrap(t, wanted))
		}
	}
}

// In which pieces the bytes come can't be seen.
func TestPiecesAreNotToBeSeen(t *testing.T) {
	for _, quota := range []int{0, 40, 3000} {
		s := script(3)
		wanted := alone(t, quota, 3, s)
		for _, n := range []int{1, 2, 3, 7, 64, 1000, api.MaxLine, api.MaxFeed} {
			for _, turns := range []int{0, 1, 5, 1000} {
				h, e := house.Boot(may(20, quota), []int{0, 3})
				if e != api.OK {
					t.Fatalf("Boot: error %d", e)
				}
				for _, d := range pieces(1, s, n) {
					feed(t, h, 1, d.Bytes)
					feed(t, h, 0, "new a B3/S23\nclea")
					feed(t, h, 0, "n\n")
					for range turns {
						h.Turn()
					}
				}
				turnAll(h)
				if h.Out(1) != wanted {
					t.Fatalf("pieces of %d, %d turns between: told %q; want %q", n, turns, unwrap(t, h.Out(1)), unwrap(t, wanted))
				}
			}
		}
	}
}

// However far a house has come, what was told is a beginning of all that is told.
func TestWhatIsToldIsABeginning(t *testing.T) {
	wanted := alone(t, 60, 0, script(0))
	total := len(unwrap(t, wanted))
	lengths := map[int]struct{}{}
	for n := range 3*total + 5 {
		outs, e := house.Run(may(60, 30, 60), []int{0, 0, 4}, []api.Deed{
			fed(2, script(4)), turned(n / 3), fed(0, script(0)), fed(1, script(2)), turned(n - n/3),
		})
		if e != api.OK {
			t.Fatalf("Run: error %d", e)
		}
		if !strings.HasPrefix(wanted, outs[0]) {
			t.Fatalf("%d turns: told %q; want a beginning of %q", n, unwrap(t, outs[0]), unwrap(t, wanted))
		}
		lengths[len(unwrap(t, outs[0]))] = struct{}{}
	}
	if len(lengths) != total+1 {
		t.Errorf("%d different lengths up to %d answers", len(lengths), total)
	}
}

// Tenants that fill the arena, each with its own things, are told of their quotas alone, and never of the room.
func TestRoomIsNeverWanted(t *testing.T) {
	for _, quotas := range [][]int{{40, 40}, {30, 50, 70, 90}, {0, 9, 100}, slices.Repeat([]int{25}, api.Tenants)} {
		h := boot(t, may(quotas...))
		swept, refused, live := 0, 0, 0
		for tenant := range quotas {
			ask(t, h, tenant, "new a B3/S23")
		}
		for round := range 60 {
			for tenant := range quotas {
				for _, s := range ask(t, h, tenant, greedy(tenant, round)...) {
					if s == "no 5" {
						t.Fatalf("quotas %v, tenant %d, round %d: told no 5", quotas, tenant, round)
					}
					if s == "no 9" {
						refused++
					}
				}
				// Nobody cleans: things are no more only where there was no room.
				if h.Live() < live {
					swept++
				}
				live = h.Live()
			}
		}
		if swept < 3 || refused < 100 {
			t.Errorf("quotas %v: %d sweeps, %d refusals: too little was tried", quotas, swept, refused)
		}
	}
}

// greedy is requests by which a tenant comes to have all that it may; those that are refused leave things that are
// nobody's.
func greedy(tenant, round int) []string {
	r := rand.New(rand.NewSource(int64(tenant*1000 + round)))
	some := "set a"
	for range 8 {
		some += " " + strconv.Itoa(r.Intn(16)) + "," + strconv.Itoa(r.Intn(16))
	}
	return []string{some, "step a 1000", "count a"}
}
