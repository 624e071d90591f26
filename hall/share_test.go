package hall_test

import (
	"slices"
	"strings"
	"testing"
	"unsafe"

	"lifelodge/api"
)

// What is handed in is not changed and not kept; what comes out is new.

func TestSetLeavesTheListAsItIs(t *testing.T) {
	g := alone(t)
	g.ok(found("a", life))
	all := cells(at(2, 2), at(1, 2), at(2, 2), at(0, 1), at(9, 9), at(8, 8))
	before := slices.Clone(all)
	g.ok(set("a", all[:4]...))
	g.no(set("a", append(all[:4:4], at(api.MaxCoord, 0))...), api.ErrRange)
	if !slices.Equal(all, before) {
		t.Errorf("handed in %v, left behind %v", before, all)
	}
	for i := range all {
		all[i] = at(-7, -7)
	}
	g.holds("a", life, cells(at(0, 1), at(1, 2), at(2, 2)))
}

func TestGetTellsNewCells(t *testing.T) {
	g := alone(t)
	g.ok(found("a", life), set("a", glider()...), double("a", "b"))
	var told [][]api.Cell
	for _, name := range []string{"a", "a", "b"} {
		told = append(told, g.h.Do(get(name)).Cells)
	}
	for _, l := range told {
		if !slices.Equal(l, glider()) {
			t.Errorf("told %v; want %v", l, glider())
		}
		whole := l[:cap(l)]
		for i := range whole {
			whole[i] = at(77, 77)
		}
	}
	g.holds("a", life, glider())
	g.holds("b", life, glider())
}

// passing is a text that is something else later.
type passing struct{ bytes []byte }

func pass(s string) passing { return passing{[]byte(s)} }

func (p passing) text() string { return unsafe.String(unsafe.SliceData(p.bytes), len(p.bytes)) }

func (p passing) over() {
	for i := range p.bytes {
		p.bytes[i] = 'x'
	}
}

func TestNamesAreNotKept(t *testing.T) {
	g := alone(t)
	a, b, leased := pass("first"), pass("second"), pass("first")
	// Not through g.ok, which remembers names.
	for _, q := range []api.Request{found(a.text(), life), set(a.text(), rod()...), double(a.text(), b.text())} {
		if x := g.h.Do(q); x.Code != api.OK {
			t.Fatalf("%v: error %d", q, x.Code)
		}
	}
	k := g.h.Do(lease(leased.text(), both)).Key
	a.over()
	b.over()
	leased.over()
	for _, place := range []string{"first", "second", k} {
		g.holds(place, life, rod())
	}
	g.ok(drop("first"))
	g.no(get(k), api.ErrNone)
	g.no(get("xxxxx"), api.ErrNone)
	g.holds("second", life, rod())
}

// A key that was told is the asker's: whatever becomes of it, the key itself is as it was.
func TestKeysAreTold(t *testing.T) {
	g := enter(t, build(t, 1000), mine, 12345)
	g.ok(found("a", life), set("a", rod()...))
	var kept []string
	for range 3 {
		told := g.h.Do(lease("a", both)).Key
		kept = append(kept, strings.Clone(told))
		for i := range len(told) {
			unsafe.Slice(unsafe.StringData(told), len(told))[i] = 'x'
		}
	}
	for _, k := range kept {
		g.holds(k, life, rod())
	}
}
