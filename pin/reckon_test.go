package pin

import (
	"fmt"
	"math"
	"math/rand"
	"strings"
	"testing"

	"philtre/api"
	"philtre/drive"
	"philtre/heap"
)

// What is handed in

var (
	epochs  = []uint64{0, 1, 2, 3, 255, 256, 1<<32 - 1, 1 << 32, math.MaxInt64, 1 << 63, math.MaxUint64 - 1, math.MaxUint64}
	threads = []int{0, 1, 2, 3, 4, 5, 6, 7, 8, 9, 15, 16, 17, 100, 1<<31 - 1, 1 << 31, math.MaxInt - 1, math.MaxInt}
)

// Configs that may be: the least one, the greatest one, and others.
var (
	least    = api.Config{Cap: 1, Pins: 1, Shelves: 1}
	greatest = api.Config{Cap: 32, Pins: 8, Shelves: 64, Queue: 64, Watchers: 8, Seed: math.MaxUint64}
	small    = api.Config{Cap: 2, Pins: 3, Shelves: 3}
	configs  = []api.Config{
		least, greatest, small,
		{Cap: 1, Pins: 2, Shelves: 2, Seed: 1},
		{Cap: 1, Pins: 8, Shelves: 5, Queue: 3, Seed: math.MaxUint64},
		{Cap: 32, Pins: 1, Shelves: 7, Watchers: 8, Seed: 1 << 63},
		{Cap: 3, Pins: 4, Shelves: 8, Queue: 64, Watchers: 1, Seed: 77},
		{Cap: 31, Pins: 7, Shelves: 63, Queue: 1, Watchers: 2, Seed: 1},
		{Cap: 1, Pins: 5, Shelves: 64},
		{Cap: 32, Pins: 6, Shelves: 1, Queue: 64, Watchers: 8, Seed: 1},
	}
)

// fields are the numbers of a config, and the least and the greatest that each may be.
var fields = []struct {
	name        string
	least, most int
	of          func(*api.Config) *int
}{
	{"Cap", 1, 32, func(c *api.Config) *int { return &c.Cap }},
	{"Pins", 1, 8, func(c *api.Config) *int { return &c.Pins }},
	{"Shelves", 1, 64, func(c *api.Config) *int { return &c.Shelves }},
	{"Queue", 0, 64, func(c *api.Config) *int { return &c.Queue }},
	{"Watchers", 0, 8, func(c *api.Config) *int { return &c.Watchers }},
}

// anyWord is a word of any length.
func anyWord(r *rand.Rand) uint64 { return r.Uint64() >> r.Intn(65) }

func anyText(r *rand.Rand, most int) string {
	b := make([]byte, r.Intn(most+1))
	r.Read(b)
	return string(b)
}

func anyConfig(r *rand.Rand) api.Config {
	c := api.Config{Seed: anyWord(r)}
	for _, f := range fields {
		*f.of(&c) = f.least + r.Intn(f.most-f.least+1)
	}
	return c
}

// What it comes to, as it is reckoned here

// loaded is the act that loads the epoch.
var loaded = api.Act{Kind: 1, Block: 1}

// swapped is the act that tries a pin, and stored the one that stores into it.
func swapped(pin int, word uint64) api.Act {
	return api.Act{Kind: 3, Block: 1, Cell: 3 + pin, New: word}
}

func stored(pin int, word uint64) api.Act {
	return api.Act{Kind: 2, Block: 1, Cell: 3 + pin, New: word}
}

// pace is an act, and what it is answered.
type pace struct {
	act api.Act
	got api.Got
}

// course is all acts with their answers, and what is come to, where the epoch is loaded, the swaps are answered these words, and then the epoch is loaded again as these; behind the last swap that is told each is answered 0, and behind the last epoch each is the same again.
func course(c api.Config, thread int, epoch uint64, swaps, again []uint64) ([]pace, Pinned) {
	l := []pace{{loaded, api.Got{Word: epoch}}}
	for i := range c.Pins {
		var word uint64
		if i < len(swaps) {
			word = swaps[i]
		}
		pin := (thread%c.Pins + i) % c.Pins
		l = append(l, pace{swapped(pin, epoch+1), api.Got{Word: word}})
		if word != 0 {
			continue
		}
		for _, now := range again {
			l = append(l, pace{loaded, api.Got{Word: now}})
			if now == epoch {
				return l, Pinned{pin, epoch, false}
			}
			epoch = now
			l = append(l, pace{stored(pin, epoch+1), api.Got{}})
		}
		l = append(l, pace{loaded, api.Got{Word: epoch}})
		return l, Pinned{pin, epoch, false}
	}
	return l, Pinned{0, 0, true}
}

// all is n times one word.
func all(n int, word uint64) []uint64 {
	l := make([]uint64, n)
	for i := range l {
		l[i] = word
	}
	return l
}

// What is checked

// going holds that a routine is ahead of an act, however often it is asked, and not done.
func going(t *testing.T, what string, x *Pin, want api.Act) {
	t.Helper()
	for range 3 {
		if a, more := x.Act(); a != want || !more {
			t.Fatalf("%s: %+v %v, and not %+v", what, a, more, want)
		}
		if p, is := x.Result(); p != (Pinned{}) || is {
			t.Fatalf("%s: Result is %+v %v ahead of the end", what, p, is)
		}
	}
}

// ended holds that a routine is done with what it came to, however often it is asked, and whatever it is still answered.
func ended(t *testing.T, what string, x *Pin, want Pinned) {
	t.Helper()
	for _, g := range []api.Got{{}, {Word: 7}, {Text: "x"}, {Word: want.Epoch}, {Word: want.Epoch + 1, Text: "y"}, {}, {Word: math.MaxUint64}} {
		for range 2 {
			if a, more := x.Act(); a != (api.Act{}) || more {
				t.Fatalf("%s: %+v %v behind the end", what, a, more)
			}
			if p, is := x.Result(); p != want || !is {
				t.Fatalf("%s: Result is %+v %v, and not %+v", what, p, is, want)
			}
		}
		x.Take(g)
	}
}

// nothing holds that a routine has no act and no result, whatever it is answered.
func nothing(t *testing.T, what string, x *Pin) {
	t.Helper()
	for _, g := range []api.Got{{}, {Word: 1}, {Word: math.MaxUint64, Text: "x"}, {}, {Word: 2}, {Text: "k"}, {Text: "y"}, {}, {}} {
		for range 2 {
			if a, more := x.Act(); a != (api.Act{}) || more {
				t.Fatalf("%s: %+v %v", what, a, more)
			}
			if p, is := x.Result(); p != (Pinned{}) || is {
				t.Fatalf("%s: Result is %+v %v", what, p, is)
			}
		}
		x.Take(g)
	}
}

// through goes through a routine, and holds that it does just these acts, and what it came to then.
func through(t *testing.T, what string, x *Pin, l []pace, want Pinned) {
	t.Helper()
	for i, p := range l {
		going(t, fmt.Sprint(what, ": act ", i), x, p.act)
		x.Take(p.got)
	}
	ended(t, what, x, want)
}

// follows holds all of that of what is answered.
func follows(t *testing.T, c api.Config, thread int, epoch uint64, swaps, again []uint64) {
	t.Helper()
	l, want := course(c, thread, epoch, swaps, again)
	through(t, fmt.Sprintf("%+v thread %d epoch %d swaps %d again %d", c, thread, epoch, swaps, again), New(c, thread), l, want)
}

// Heaps

// control is a heap whose first block is the control block of a config: its pins are free, its epoch is this one, and each other cell has a word.
func control(c api.Config, epoch uint64) *heap.Heap {
	h := heap.New()
	h.Make(3+c.Pins+c.Cap+2*c.Shelves, "")
	for i := range h.Size(1) {
		h.Store(1, i, uint64(1000+i))
	}
	for i := range c.Pins {
		h.Store(1, 3+i, 0)
	}
	h.Store(1, 0, epoch)
	return h
}

// cell is the word of a cell of the control block.
func cell(h *heap.Heap, i int) uint64 {
	word, _ := h.Copy().Load(1, i)
	return word
}

// cells is all words of the control block.
func cells(h *heap.Heap) []uint64 {
	var l []uint64
	for i := range h.Size(1) {
		l = append(l, cell(h, i))
	}
	return l
}

// look is all that a heap tells, as a text; nothing changes by that.
func look(h *heap.Heap) string {
	k := h.Copy()
	var s strings.Builder
	fmt.Fprint(&s, k.Locked(), " ", k.Faults())
	for _, b := range k.Blocks() {
		text, _ := k.Words(b)
		fmt.Fprintf(&s, "; %d %q:", b, text)
		for i := range k.Size(b) {
			w, _ := k.Load(b, i)
			fmt.Fprint(&s, " ", w)
		}
	}
	fmt.Fprint(&s, "; next ", k.Make(0, ""))
	return s.String()
}

// Several threads side by side

// party is threads that pin, on one heap, and what each one was answered last.
type party struct {
	config api.Config
	heap   *heap.Heap
	pins   []*Pin
	last   []uint64 // the epoch that each loaded last
}

func gather(c api.Config, epoch uint64, threads ...int) *party {
	p := &party{config: c, heap: control(c, epoch)}
	for _, thread := range threads {
		p.pins = append(p.pins, New(c, thread))
	}
	p.last = make([]uint64, len(threads))
	return p
}

// pick does the next act of one of them, or lets the epoch go on, if there is no such one.
func (p *party) pick(t *testing.T, who int) {
	t.Helper()
	if who >= len(p.pins) {
		p.heap.Bump(1, 0, 1)
		return
	}
	s, _ := drive.Next(p.heap, p.pins[who])
	if s.Act.Kind == api.Load {
		p.last[who] = s.Got.Word
	}
}

// holds holds what is to be true at each time: who is done and not Taken has a pin of its own, which tells its epoch; who is Taken has none; and there is no fault.
func (p *party) holds(t *testing.T, what string) {
	t.Helper()
	owner := map[int]int{}
	for i, x := range p.pins {
		is, done := x.Result()
		if !done || is.Taken {
			if is.Pin != 0 || is.Epoch != 0 {
				t.Fatalf("%s: %d has %+v", what, i, is)
			}
			continue
		}
		if other, two := owner[is.Pin]; two {
			t.Fatalf("%s: %d and %d have %+v", what, i, other, is)
		}
		owner[is.Pin] = i
		if now := cell(p.heap, 3+is.Pin); now != is.Epoch+1 || is.Epoch != p.last[i] || is.Pin < 0 || is.Pin >= p.config.Pins {
			t.Fatalf("%s: %d has %+v, its cell %d, and it looked last at %d", what, i, is, now, p.last[i])
		}
	}
	if p.heap.Faults() != 0 {
		t.Fatalf("%s: %d faults", what, p.heap.Faults())
	}
}

// finish drives all of them to the end, and holds how many have a pin: as many as there are, up to as many as there are pins.
func (p *party) finish(t *testing.T, what string) {
	t.Helper()
	has := 0
	for i, x := range p.pins {
		for range 3*p.config.Pins + 9 {
			p.pick(t, i)
		}
		is, done := x.Result()
		if !done {
			t.Fatalf("%s: %d is not done", what, i)
		}
		if !is.Taken {
			has++
		}
		p.holds(t, what)
	}
	if has != min(len(p.pins), p.config.Pins) {
		t.Fatalf("%s: %d have a pin", what, has)
	}
	taken := 0
	for i := range p.config.Pins {
		if cell(p.heap, 3+i) != 0 {
			taken++
		}
	}
	if taken != has {
		t.Fatalf("%s: %d pins are taken, and %d have one", what, taken, has)
	}
}

// leave gives a pin back, if one of them has it, and puts another routine in its place.
func (p *party) leave(who, thread int) bool {
	is, done := p.pins[who].Result()
	if !done {
		return false
	}
	if !is.Taken {
		one(p.heap, Free(p.config, is.Pin))
	}
	p.pins[who] = New(p.config, thread)
	return true
}

// single is a routine of one act.
type single struct {
	act  api.Act
	done bool
}

func (x *single) Act() (api.Act, bool) { return x.act, !x.done }
func (x *single) Take(api.Got)         { x.done = true }

// one does an act on a heap.
func one(h *heap.Heap, a api.Act) { drive.Next(h, &single{act: a}) }
