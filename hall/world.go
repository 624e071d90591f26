package hall

import (
	"slices"
	"strings"

	"lifelodge/api"
	"lifelodge/keys"
	"lifelodge/leap"
	"lifelodge/quad"
	"lifelodge/rule"
	"lifelodge/speech"
)

// world is a universe: the arena has its cells, as the least root that reaches them. None of them is out of Tidy's
// bounds, as set and step see to.
type world struct {
	name string
	rule api.Rule
	root int
}

// found makes a universe more; its root is asked for last, when nothing else can be wrong.
func (h *Hall) found(name string, r api.Rule, root func() (int, api.Errno)) (api.Answer, api.Errno) {
	switch {
	case !speech.Named(name):
		return api.Answer{}, api.ErrForm
	case !rule.Good(r):
		return api.Answer{}, api.ErrKind
	case h.world(name) != nil:
		return api.Answer{}, api.ErrTwice
	case len(h.worlds) >= api.MaxWorlds:
		return api.Answer{}, api.ErrFull
	}
	w := &world{name: strings.Clone(name), rule: r}
	e := w.become(root())
	if e == api.OK {
		h.worlds = append(h.worlds, w)
	}
	return api.Answer{}, e
}

// copy makes nothing in the arena: two universes with the same cells have the same root, and neither changes it.
func (h *Hall) copy(w *world, q api.Request) (api.Answer, api.Errno) {
	return h.found(q.Other, w.rule, func() (int, api.Errno) { return w.root, api.OK })
}

func (h *Hall) drop(name string) (api.Answer, api.Errno) {
	gone := h.world(name)
	if gone == nil {
		return api.Answer{}, api.ErrNone
	}
	h.worlds = slices.DeleteFunc(h.worlds, func(w *world) bool { return w == gone })
	h.table, _ = keys.Revoke(h.table, name)
	return api.Answer{}, api.OK
}

func (h *Hall) set(w *world, q api.Request) (api.Answer, api.Errno) {
	return api.Answer{}, w.become(quad.Add(h.a, h.tenant, w.root, q.Cells))
}

func (h *Hall) step(w *world, q api.Request) (api.Answer, api.Errno) {
	if q.N < 0 || q.N > api.MaxSteps {
		return api.Answer{}, api.ErrRange
	}
	// Without cells the box is at 0, 0, from where no step goes too far.
	b, _, e := quad.Box(h.a, h.tenant, w.root)
	if e != api.OK {
		return api.Answer{}, e
	}
	if max(-b.X0, -b.Y0, b.X1, b.Y1)+q.N >= api.MaxCoord {
		return api.Answer{}, api.ErrRange
	}
	return api.Answer{}, w.become(leap.Steps(h.a, h.tenant, w.rule, w.root, q.N))
}

func (h *Hall) get(w *world, _ api.Request) (api.Answer, api.Errno) {
	l, e := quad.Cells(h.a, h.tenant, w.root)
	return api.Answer{Rule: w.rule, Cells: l, N: len(l)}, e
}

func (h *Hall) count(w *world, _ api.Request) (api.Answer, api.Errno) {
	n, e := quad.Count(h.a, h.tenant, w.root)
	return api.Answer{Rule: w.rule, N: n}, e
}

func (h *Hall) box(w *world, _ api.Request) (api.Answer, api.Errno) {
	b, some, e := quad.Box(h.a, h.tenant, w.root)
	x := api.Answer{Rule: w.rule, Box: b}
	if some {
		x.N = 1
	}
	return x, e
}

// become gives a universe the root that a call answered, unless it was refused.
func (w *world) become(root int, e api.Errno) api.Errno {
	if e == api.OK {
		w.root = root
	}
	return e
}
