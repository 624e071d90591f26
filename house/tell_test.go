package house

import (
	"testing"

	"lifelodge/api"
)

// P12.3: no hall answers what Tell refuses, so that this can be seen from within alone.

func TestTellRefuses(t *testing.T) {
	far := []api.Cell{{X: api.MaxCoord}}
	for _, s := range []struct {
		verb   int
		a      api.Answer
		wanted string
	}{
		{api.VerbGet, api.Answer{Cells: make([]api.Cell, api.MaxCells+1)}, "no 5"}, {api.VerbGet, api.Answer{Cells: far}, "no 3"},
		{api.VerbGet, api.Answer{Rule: api.Rule{Born: 1}}, "no 3"}, {api.VerbGet, api.Answer{Rule: api.Rule{Live: -1}}, "no 3"},
		{-1, api.Answer{}, "no 4"}, {11, api.Answer{Code: api.ErrNone}, "no 4"},
		{api.VerbGet, api.Answer{Code: api.ErrNone, Cells: far}, "no 6"}, {api.VerbGet, api.Answer{}, "none\nx = 0, y = 0, rule = B/S\n!\n"},
		{api.VerbCount, api.Answer{N: 7, Cells: far}, "count 7"},
	} {
		if told := tell(s.verb, s.a); told != s.wanted {
			t.Errorf("verb %d, %d cells, %v: told %q; want %q", s.verb, len(s.a.Cells), s.a.Rule, told, s.wanted)
		}
	}
}
