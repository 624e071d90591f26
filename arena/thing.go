package arena

import (
	"container/heap"

	"lifelodge/api"
)

// first is the least number of a thing: Dead and Alive have those below it.
const first = 2

// Kinds of things.
const (
	noThing = 0
	aSquare = 1
	aNote   = 2
)

// key says which thing one is: a square by its quarters, a note by its square, its rule and its j.
// A note's value is not in it, so that a note of another value is found.
type key struct {
	kind  int
	parts [4]int
}

func noteKey(square, rule, j int) key {
	return key{aNote, [4]int{square, rule, j}}
}

// thing is a square, with its level, or a note, with its value. Bit t of the mask says that it is tenant t's own.
type thing struct {
	key
	level, value int
	mask         uint64
}

func (x thing) isOwn(t int) bool { return x.mask&bit(t) != 0 }

// tenant is what a tenant may have, what it has, and of that the numbers of what can be undone.
type tenant struct {
	limit, count int
	fresh        []int
}

func isTenant(t int) bool { return t >= 0 && t < api.Tenants }

func bit(t int) uint64 { return 1 << t }

// own is the thing of a number, if it is the tenant's own.
func (a *Arena) own(t, id int) (thing, bool) {
	if id < first || id-first >= len(a.things) || !a.things[id-first].isOwn(t) {
		return thing{}, false
	}
	return a.things[id-first], true
}

// level is the level of the tenant's own square of a number, if there is one.
func (a *Arena) level(t, id int) (int, bool) {
	if id == api.Dead || id == api.Alive {
		return 0, true
	}
	x, ok := a.own(t, id)
	if !ok || x.kind != aSquare {
		return 0, false
	}
	return x.level, true
}

// become makes a thing the tenant's own, and answers its number.
func (a *Arena) become(t int, x thing) (int, api.Errno) {
	id, there := a.numbers[x.key]
	if there && a.things[id-first].isOwn(t) {
		return id, api.OK
	}
	if a.tenants[t].count >= a.tenants[t].limit {
		return 0, api.ErrQuota
	}
	if !there {
		if a.Live() >= a.room {
			a.Sweep()
		}
		if a.Live() >= a.room {
			return 0, api.ErrFull
		}
		id = a.lay(x)
	}
	a.give(t, id)
	return id, api.OK
}

// lay gives a thing, which is nobody's yet, the least number that is free.
func (a *Arena) lay(x thing) int {
	id := first + len(a.things)
	if len(a.free) > 0 {
		id = heap.Pop(&a.free).(int)
		a.things[id-first] = x
	} else {
		a.things = append(a.things, x)
	}
	a.numbers[x.key] = id
	return id
}

func (a *Arena) give(t, id int) {
	a.things[id-first].mask |= bit(t)
	a.tenants[t].count++
	a.tenants[t].fresh = append(a.tenants[t].fresh, id)
}

// take leaves the list of what can be undone as it is: who takes forgets what was taken there.
func (a *Arena) take(t, id int) {
	a.things[id-first].mask &^= bit(t)
	a.tenants[t].count--
}

// keep marks the tenant's own square of a number, and all squares that it is made of: they are the tenant's own, too,
// as Join wants them to be, and Undo, Back and Clean take none away from below another.
func (a *Arena) keep(t, id int, kept []bool) {
	x, ok := a.own(t, id)
	if !ok || x.kind != aSquare || kept[id-first] {
		return
	}
	kept[id-first] = true
	for _, q := range x.parts {
		a.keep(t, q, kept)
	}
}

// least is a heap of numbers.
type least []int

func (l least) Len() int           { return len(l) }
func (l least) Less(i, j int) bool { return l[i] < l[j] }
func (l least) Swap(i, j int)      { l[i], l[j] = l[j], l[i] }

// Push and Pop are for container/heap alone, which speaks of any.
func (l *least) Push(x any) { *l = append(*l, x.(int)) }

func (l *least) Pop() any {
	last := len(*l) - 1
	x := (*l)[last]
	*l = (*l)[:last]
	return x
}
