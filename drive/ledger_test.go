package drive

import (
	"errors"
	"fmt"
	"math"
	"math/rand"
	"reflect"
	"slices"
	"testing"

	"philtre/act"
	"philtre/api"
	"philtre/heap"
)

// Routines

// listed does the acts of a list, one behind the other, and keeps what it was answered.
type listed struct {
	acts []api.Act
	got  []api.Got
}

func (r *listed) Act() (api.Act, bool) {
	if len(r.got) >= len(r.acts) {
		return api.Act{}, false
	}
	return r.acts[len(r.got)], true
}

func (r *listed) Take(g api.Got) { r.got = append(r.got, g) }

func list(acts ...api.Act) *listed { return &listed{acts: acts} }

// chooser does what its choice tells of all that it was answered so far: also an act beside false.
type chooser struct {
	choice func(got []api.Got) (api.Act, bool)
	got    []api.Got
}

func (r *chooser) Act() (api.Act, bool) { return r.choice(slices.Clone(r.got)) }
func (r *chooser) Take(g api.Got)       { r.got = append(r.got, g) }

func choose(choice func(got []api.Got) (api.Act, bool)) *chooser { return &chooser{choice: choice} }

// value is a routine that is a struct, and can't be compared.
type value struct {
	within *listed
	spare  []int
}

func (r value) Act() (api.Act, bool) { return r.within.Act() }
func (r value) Take(g api.Got)       { r.within.Take(g) }

// functions is a routine that is a struct of functions: either may panic.
type functions struct {
	act  func() (api.Act, bool)
	take func(api.Got)
}

func (r functions) Act() (api.Act, bool) { return r.act() }
func (r functions) Take(g api.Got)       { r.take(g) }

// acts is a routine that is a list of acts, held by its pointer, and does the first one.
type acts []api.Act

func (r *acts) Act() (api.Act, bool) {
	if r == nil || len(*r) == 0 {
		return api.Act{}, false
	}
	return (*r)[0], true
}

func (r *acts) Take(g api.Got) { *r = (*r)[1:] }

// number is a routine that is a number: it is done at once if that is 0, and bumps for ever if not.
type number int

func (r number) Act() (api.Act, bool) { return bump(1, 0, uint64(r)), r != 0 }
func (r number) Take(api.Got)         {}

// forever bumps a cell by one for ever.
func forever(b uint64, i int) *chooser {
	return choose(func([]api.Got) (api.Act, bool) { return bump(b, i, 1), true })
}

// spinner takes a cell from 0 to 1 by swaps, as many as it needs, bumps the next cell, and gives the first one back.
func spinner(b uint64) *chooser {
	return choose(func(got []api.Got) (api.Act, bool) {
		took := slices.Index(got, api.Got{})
		if took < 0 {
			return swap(b, 0, 0, 1), true
		}
		behind := []api.Act{load(b, 1), bump(b, 1, 1), store(b, 0, 0)}
		if at := len(got) - took - 1; at < len(behind) {
			return behind[at], true
		}
		return api.Act{}, false
	})
}

// maker makes a block, looks at its text, stores into it, and drops it.
func maker(text string) *chooser {
	return choose(func(got []api.Got) (api.Act, bool) {
		switch len(got) {
		case 0:
			return api.Act{Kind: api.Make, Cell: 2, Text: text}, true
		case 1:
			return api.Act{Kind: api.Words, Block: got[0].Word}, true
		case 2:
			return store(got[0].Word, 1, uint64(len(got[1].Text))), true
		case 3:
			return load(got[0].Word, 1), true
		case 4:
			return api.Act{Kind: api.Drop, Block: got[0].Word}, true
		}
		return api.Act{}, false
	})
}

// Acts

func load(b uint64, i int) api.Act  { return api.Act{Kind: api.Load, Block: b, Cell: i} }
func await(b uint64, i int) api.Act { return api.Act{Kind: api.Await, Block: b, Cell: i} }
func store(b uint64, i int, w uint64) api.Act {
	return api.Act{Kind: api.Store, Block: b, Cell: i, New: w}
}
func bump(b uint64, i int, by uint64) api.Act {
	return api.Act{Kind: api.Bump, Block: b, Cell: i, New: by}
}
func swap(b uint64, i int, old, w uint64) api.Act {
	return api.Act{Kind: api.Swap, Block: b, Cell: i, Old: old, New: w}
}

var (
	lock   = api.Act{Kind: api.Lock}
	unlock = api.Act{Kind: api.Unlock}
	none   = api.Act{}
)

// wrongActs may not be, each by another one of its parts.
var wrongActs = []api.Act{
	{Kind: -1}, {Kind: 11}, {Kind: math.MinInt}, {Kind: math.MaxInt}, {Kind: 1<<32 + 8}, {Kind: 256 + 8},
	{Block: 1}, {Cell: 1}, {Old: 1}, {New: 1}, {Text: "x"}, {Cell: -1},
	{Kind: api.Load, Block: 1, Cell: -1}, {Kind: api.Load, Block: 1, Old: 1}, {Kind: api.Load, Block: 1, New: 1}, {Kind: api.Load, Block: 1, Text: "x"},
	{Kind: api.Store, Block: 1, New: 8, Old: 1}, {Kind: api.Store, Block: 1, Cell: -1, New: 8}, {Kind: api.Store, Block: 1, New: 8, Text: "x"},
	{Kind: api.Swap, Block: 1, New: 8, Cell: math.MinInt}, {Kind: api.Swap, Block: 1, New: 8, Text: "x"},
	{Kind: api.Bump, Block: 1, New: 8, Old: 8}, {Kind: api.Bump, Block: 1, New: 8, Text: "x"},
	{Kind: api.Make, Cell: -1}, {Kind: api.Make, Cell: 1, Block: 1}, {Kind: api.Make, Cell: 1, New: 1},
	{Kind: api.Words, Block: 1, Cell: 1}, {Kind: api.Drop, Block: 1, Cell: 1}, {Kind: api.Drop, Block: 1, New: 1},
	{Kind: api.Lock, Block: 1}, {Kind: api.Lock, Cell: -1}, {Kind: api.Lock, Text: "x"}, {Kind: api.Unlock, Old: 1},
	{Kind: api.Await, Block: 1, Cell: -1}, {Kind: api.Await, Block: 1, Cell: 3, New: 1}, {Kind: api.Await, Block: 9, Text: "x"},
}

// Heaps

// ground is a heap with the blocks 1 (of three cells: 0, 5 and 0), 2 (of no cell) and 4 (of one cell: 7); 3 was dropped.
func ground() *heap.Heap {
	h := heap.New()
	h.Make(3, "one")
	h.Make(0, "two")
	h.Make(1, "three")
	h.Make(1, "four")
	h.Store(1, 1, 5)
	h.Store(4, 0, 7)
	h.Drop(3)
	return h
}

func locked() *heap.Heap {
	h := ground()
	h.Lock()
	return h
}

// look is all that a heap tells, as a text; nothing changes by that.
func look(h *heap.Heap) string {
	if h == nil {
		return "nil"
	}
	c := h.Copy()
	s := fmt.Sprint(c.Locked(), " ", c.Faults(), " next ", h.Copy().Make(0, ""))
	for _, b := range c.Blocks() {
		text, _ := c.Words(b)
		s += fmt.Sprintf("; %d %q:", b, text)
		for i := range c.Size(b) {
			w, _ := c.Load(b, i)
			s += fmt.Sprint(" ", w)
		}
	}
	return s
}

// The reckoning

// stuck says whether an act is not ready, as it is reckoned here; of one that may be.
func stuck(h *heap.Heap, x api.Act) bool {
	switch x.Kind {
	case api.Lock:
		return h == nil || h.Locked()
	case api.Await:
		if h == nil || !slices.Contains(h.Blocks(), x.Block) || x.Cell >= h.Size(x.Block) {
			return true
		}
		w, _ := h.Copy().Load(x.Block, x.Cell)
		return w == 0
	}
	return false
}

// reckoned is what a routine that lists its acts comes to: it has done so many.
type reckoned struct {
	acts []api.Act
	at   int
}

// next is the step that is to come, done on the heap; false, if none is.
func (k *reckoned) next(h *heap.Heap) (Step, bool) {
	if k.at >= len(k.acts) || act.Right(k.acts[k.at]) && stuck(h, k.acts[k.at]) {
		return Step{}, false
	}
	x := k.acts[k.at]
	k.at++
	return Step{0, x, act.Do(h, x)}, true
}

// alone is the steps that are to come, and whether it is done then.
func (k *reckoned) alone(h *heap.Heap, most int) ([]Step, bool) {
	var l []Step
	for len(l) < most {
		s, is := k.next(h)
		if !is {
			break
		}
		l = append(l, s)
	}
	return l, k.at == len(k.acts)
}

// Helpers

// all is the steps of a range over them.
func all(h *heap.Heap, r api.Routine, most int) []Step {
	var l []Step
	for s := range Steps(h, r, most) {
		l = append(l, s)
	}
	return l
}

// gots is what the steps were answered.
func gots(l []Step) []api.Got {
	var g []api.Got
	for _, s := range l {
		g = append(g, s.Got)
	}
	return g
}

// whose is the steps as those of another number.
func whose(who int, l []Step) []Step {
	var own []Step
	for _, s := range l {
		s.Who = who
		own = append(own, s)
	}
	return own
}

// same holds two rows of steps against each other.
func same(t *testing.T, what string, got, want []Step) {
	t.Helper()
	if !slices.Equal(got, want) {
		t.Fatalf("%s: %+v, and not %+v", what, got, want)
	}
}

// sameHeap holds two heaps against each other.
func sameHeap(t *testing.T, what string, got, want *heap.Heap) {
	t.Helper()
	if a, b := look(got), look(want); a != b {
		t.Fatalf("%s: the heap is %s, and not %s", what, a, b)
	}
}

// nothing asks Next of a routine of which nothing may be done.
func nothing(t *testing.T, what string, h *heap.Heap, r api.Routine) {
	t.Helper()
	was := look(h)
	for range 3 {
		if s, is := Next(h, r); is || s != (Step{}) {
			t.Fatalf("%s: %+v, %v", what, s, is)
		}
	}
	if is := look(h); is != was {
		t.Fatalf("%s: the heap is %s, and was %s", what, is, was)
	}
}

// panics are routines that panic when they are asked.
func panics() map[string]api.Routine {
	var none *listed
	var nilValue *value
	var empty []api.Act
	return map[string]api.Routine{
		"of a text":        functions{act: func() (api.Act, bool) { panic("text") }},
		"of an error":      functions{act: func() (api.Act, bool) { panic(errors.New("error")) }},
		"of nil":           functions{act: func() (api.Act, bool) { panic(nil) }},
		"of a place":       functions{act: func() (api.Act, bool) { return empty[0], true }},
		"no functions":     functions{},
		"a nil pointer":    none,
		"a nil value":      nilValue,
		"a value of a nil": value{},
	}
}

// anyAct is an act put together by chance, mostly of what is there.
func anyAct(r *rand.Rand) api.Act {
	b, i, n := uint64(1+r.Intn(3)), r.Intn(3), uint64(r.Intn(3))
	switch r.Intn(14) {
	case 0, 1:
		return store(b, i, n)
	case 2:
		return load(b, i)
	case 3, 4, 5:
		return await(b, i)
	case 6:
		return swap(b, i, uint64(r.Intn(3)), n)
	case 7:
		return bump(b, i, n)
	case 8:
		return api.Act{Kind: api.Make, Cell: i, Text: fmt.Sprint("text ", n)}
	case 9:
		return api.Act{Kind: api.Words, Block: b}
	case 10:
		if r.Intn(3) == 0 {
			return api.Act{Kind: api.Drop, Block: b}
		}
		return none
	case 11:
		return lock
	case 12:
		return unlock
	}
	return wrongActs[r.Intn(len(wrongActs))]
}

func anyActs(r *rand.Rand, n int) []api.Act {
	var l []api.Act
	for range n {
		l = append(l, anyAct(r))
	}
	return l
}

// anyHeap is a heap of two blocks, of which one is gone now and then.
func anyHeap(r *rand.Rand) *heap.Heap {
	h := heap.New()
	h.Make(1+r.Intn(3), "a")
	h.Make(2, "b")
	h.Store(1, 0, uint64(r.Intn(2)))
	h.Store(2, 1, uint64(r.Intn(2)))
	if r.Intn(5) == 0 {
		h.Drop(2)
	}
	if r.Intn(4) == 0 {
		h.Lock()
	}
	return h
}

// kept holds what was handed in, spare room too, against what it was.
func kept[T any](t *testing.T, what string, is, was []T) {
	t.Helper()
	if !reflect.DeepEqual(is[:cap(is)], was) {
		t.Fatalf("%s: %v, and was %v", what, is[:cap(is)], was)
	}
}
