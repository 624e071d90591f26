package house

import (
	"lifelodge/api"
	"lifelodge/hall"
	"lifelodge/speech"
)

const (
	tooLong = "\x00" // what frame tells of a line that is longer than may be
	noVerb  = 0      // what speech tells of a line that was not read
)

// port is where a tenant's bytes come in, and its answers go out.
type port struct {
	*hall.Hall
	kept   string   // of a line that has not ended
	behind []string // lines that have no room among those that wait, the oldest first
	told   []byte
}

// answer is the text that a line is answered by.
func (p *port) answer(line string) string {
	if line == tooLong {
		return refusal(api.ErrLong)
	}
	q, e := speech.Read(line)
	if e != api.OK {
		return refusal(e)
	}
	return tell(q.Verb, p.Do(q))
}

// tell is the text of an answer, or of why it has none.
func tell(verb int, a api.Answer) string {
	text, e := speech.Tell(verb, a)
	if e != api.OK {
		return refusal(e)
	}
	return text
}

func refusal(e api.Errno) string {
	text, _ := speech.Tell(noVerb, api.Answer{Code: e})
	return text
}

// dropOldest cuts the list at its head: there may be so many lines that to move all of them up each time would take too
// long. What was cut off is cleared, and a list that is empty is let go, so that nothing of it is held on to.
func (p *port) dropOldest() {
	p.behind[0] = ""
	p.behind = p.behind[1:]
	if len(p.behind) == 0 {
		p.behind = nil
	}
}
