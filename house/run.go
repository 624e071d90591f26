package house

import "lifelodge/api"

// mostTurns is how many turns one deed takes at most.
const mostTurns = 1000

// Run is what is told to each tenant when all that is done to a house.
func Run(c api.Config, draws []int, l []api.Deed) ([]string, api.Errno) {
	h, e := Boot(c, draws)
	if e != api.OK {
		return nil, e
	}
	if len(l) > api.MaxDeeds {
		return nil, api.ErrFull
	}
	for _, d := range l {
		if e := h.do(d); e != api.OK {
			return nil, e
		}
	}
	outs := make([]string, len(h.ports))
	for t := range outs {
		outs[t] = h.Out(t)
	}
	return outs, api.OK
}

func (h *House) do(d api.Deed) api.Errno {
	switch d.Kind {
	case api.DeedFeed:
		return h.Feed(d.Tenant, d.Bytes)
	case api.DeedTurn:
		h.turn(min(d.N, mostTurns))
	case api.DeedTick:
		h.Tick()
	default:
		return api.ErrKind
	}
	return api.OK
}

// turn takes so many turns, or as many as there are.
func (h *House) turn(n int) {
	for n > 0 && h.Turn() {
		n--
	}
}
