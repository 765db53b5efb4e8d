package chain

import (
	"fmt"
	"maps"
	"math"
	"math/rand"
	"strings"
	"testing"

	"philtre/api"
	"philtre/drive"
	"philtre/heap"
)

// What is handed in

var (
	epochs = []uint64{0, 1, 2, 3, 255, 1 << 32, math.MaxInt64, 1 << 63, math.MaxUint64 - 1, math.MaxUint64}
	blocks = []uint64{1, 2, 3, 255, 256, 1<<31 - 1, 1 << 32, math.MaxInt64, 1 << 63, math.MaxUint64 - 1, math.MaxUint64}
	lives  = []uint64{0, 1, 2, 3, 256, 1 << 32, 1 << 63, math.MaxUint64}
)

// Configs that may be: the least one, the greatest one, and others.
var (
	least    = api.Config{Cap: 1, Pins: 1, Shelves: 1}
	greatest = api.Config{Cap: 32, Pins: 8, Shelves: 64, Queue: 64, Watchers: 8, Seed: math.MaxUint64}
	small    = api.Config{Cap: 2, Pins: 1, Shelves: 3}
	configs  = []api.Config{
		least, greatest, small,
		{Cap: 1, Pins: 1, Shelves: 2, Seed: 1},
		{Cap: 1, Pins: 8, Shelves: 5, Queue: 3, Seed: math.MaxUint64},
		{Cap: 32, Pins: 1, Shelves: 7, Watchers: 8, Seed: 1 << 63},
		{Cap: 3, Pins: 2, Shelves: 8, Queue: 64, Watchers: 1, Seed: 77},
		{Cap: 31, Pins: 7, Shelves: 63, Queue: 1, Watchers: 2, Seed: 1},
		{Cap: 1, Pins: 1, Shelves: 64},
		{Cap: 32, Pins: 8, Shelves: 1, Queue: 64, Watchers: 8, Seed: 1},
	}
)

// fields are the numbers of a config, and the least and the greatest that each may be.
var fields = []struct {
	name        string
	least, most int
	of          func(*api.Config) *int
}{
	{"Cap", 1, 32, func(c *api.Config) *int { return &c.Cap }},
	{"Pins", 1, 8, func(c *api.Config) *int { return &c.Pins }},
	{"Shelves", 1, 64, func(c *api.Config) *int { return &c.Shelves }},
	{"Queue", 0, 64, func(c *api.Config) *int { return &c.Queue }},
	{"Watchers", 0, 8, func(c *api.Config) *int { return &c.Watchers }},
}

// values are empty, short and long, with bytes of all kinds.
func values() []string {
	var every strings.Builder
	for b := range 256 {
		every.WriteByte(byte(b))
	}
	return []string{"", "v", "value", "\x00", "\x00\x00", "\n", " ", "\xff", "\xff\xfe", "é", "\xed\xa0\x80", strings.Repeat("\xff", 32), every.String(), strings.Repeat("v", 4096), strings.Repeat("value", 2000)}
}

// anyWord is a word of any length.
func anyWord(r *rand.Rand) uint64 { return r.Uint64() >> r.Intn(65) }

func anyText(r *rand.Rand, most int) string {
	b := make([]byte, r.Intn(most+1))
	r.Read(b)
	return string(b)
}

func anyConfig(r *rand.Rand) api.Config {
	c := api.Config{Seed: anyWord(r)}
	for _, f := range fields {
		*f.of(&c) = f.least + r.Intn(f.most-f.least+1)
	}
	return c
}

// shelvesOf are some of a config's shelves: the first, one in the middle, and the last.
func shelvesOf(c api.Config) []int {
	return []int{0, c.Shelves / 2, c.Shelves - 1}
}

// What it comes to, as it is reckoned here

// cellOf is the cell of a shelf's newest version.
func cellOf(c api.Config, shelf int) int { return 3 + c.Pins + c.Cap + 2*shelf + 1 }

// loaded is the act that loads a block's cell.
func loaded(block uint64, cell int) api.Act { return api.Act{Kind: 1, Block: block, Cell: cell} }

// asked is the act that asks for a block's text.
func asked(block uint64) api.Act { return api.Act{Kind: 6, Block: block} }

// pace is an act, what it is answered, and how many were passed ahead of that.
type pace struct {
	act    api.Act
	got    api.Got
	passed int
}

// told is what is told of a version: its block, what stands in its cells Epoch and Live, and its text.
type told struct {
	block, epoch, live uint64
	text               string
}

// end is what it comes to: what is read, and how many were passed.
type end struct {
	value  Value
	passed int
}

// course is all acts with their answers, and what it comes to, where a shelf's chain is told to be of these versions, from the newest one down.
func course(c api.Config, shelf int, epoch uint64, chain []told) ([]pace, end) {
	var l []pace
	from := loaded(1, cellOf(c, shelf))
	for i, v := range chain {
		if v.block == 0 {
			panic("no block is told")
		}
		l = append(l, pace{from, api.Got{Word: v.block}, max(i-1, 0)})
		l = append(l, pace{loaded(v.block, 0), api.Got{Word: v.epoch}, i})
		if v.epoch <= epoch {
			l = append(l, pace{loaded(v.block, 2), api.Got{Word: v.live}, i})
			if v.live == 0 {
				return l, end{Value{false, "", v.block}, i}
			}
			l = append(l, pace{asked(v.block), api.Got{Text: v.text}, i})
			return l, end{Value{true, v.text, v.block}, i}
		}
		from = loaded(v.block, 1)
	}
	l = append(l, pace{from, api.Got{}, max(len(chain)-1, 0)})
	return l, end{Value{}, len(chain)}
}

// long is a chain of n versions that are told to have one block and one epoch.
func long(n int, block, epoch uint64) []told {
	l := make([]told, n)
	for i := range l {
		l[i] = told{block, epoch, 1, "long"}
	}
	return l
}

// What is checked

// going holds that a routine is ahead of an act, however often it is asked, and not done.
func going(t *testing.T, what string, x *Chain, p pace) {
	t.Helper()
	for range 3 {
		if a, more := x.Act(); a != p.act || !more {
			t.Fatalf("%s: %+v %v, and not %+v", what, a, more, p.act)
		}
		if v, is := x.Result(); v != (Value{}) || is {
			t.Fatalf("%s: Result is %+v %v ahead of the end", what, v, is)
		}
		if n := x.Passed(); n != p.passed {
			t.Fatalf("%s: passed %d, and not %d", what, n, p.passed)
		}
	}
}

// ended holds that a routine is done with what it came to, however often it is asked, and whatever it is still answered.
func ended(t *testing.T, what string, x *Chain, want end) {
	t.Helper()
	for _, g := range []api.Got{{}, {Word: 7}, {Text: "x"}, {Text: "v"}, {Word: 1, Text: "y"}, {Word: math.MaxUint64}, {}} {
		for range 2 {
			if a, more := x.Act(); a != (api.Act{}) || more {
				t.Fatalf("%s: %+v %v behind the end", what, a, more)
			}
			if v, is := x.Result(); v != want.value || !is {
				t.Fatalf("%s: Result is %+v %v, and not %+v", what, v, is, want.value)
			}
			if n := x.Passed(); n != want.passed {
				t.Fatalf("%s: passed %d, and not %d", what, n, want.passed)
			}
		}
		x.Take(g)
	}
}

// nothing holds that a routine has no act and no result, whatever it is answered.
func nothing(t *testing.T, what string, x *Chain) {
	t.Helper()
	for _, g := range []api.Got{{}, {Word: 1}, {Word: math.MaxUint64, Text: "x"}, {}, {Word: 2}, {Text: "v"}, {Text: "y"}, {}} {
		for range 2 {
			if a, more := x.Act(); a != (api.Act{}) || more {
				t.Fatalf("%s: %+v %v", what, a, more)
			}
			if v, is := x.Result(); v != (Value{}) || is {
				t.Fatalf("%s: Result is %+v %v", what, v, is)
			}
			if n := x.Passed(); n != 0 {
				t.Fatalf("%s: passed %d", what, n)
			}
		}
		x.Take(g)
	}
}

// through goes through a routine, and holds that it does just these acts, and what it came to then.
func through(t *testing.T, what string, x *Chain, l []pace, want end) {
	t.Helper()
	for i, p := range l {
		going(t, fmt.Sprint(what, ": act ", i), x, p)
		x.Take(p.got)
	}
	ended(t, what, x, want)
}

// Heaps

// control is a heap whose first block is the control block of a config: each cell that is of no newest version has a word, and those have none.
func control(c api.Config) *heap.Heap {
	h := heap.New()
	h.Make(3+c.Pins+c.Cap+2*c.Shelves, "control")
	for i := range h.Size(1) {
		h.Store(1, i, uint64(1000+i))
	}
	for shelf := range c.Shelves {
		h.Store(1, cellOf(c, shelf), 0)
	}
	return h
}

// look is all that a heap tells, as a text; nothing changes by that.
func look(h *heap.Heap) string {
	k := h.Copy()
	var s strings.Builder
	fmt.Fprint(&s, k.Locked(), " ", k.Faults())
	for _, b := range k.Blocks() {
		text, _ := k.Words(b)
		fmt.Fprintf(&s, "; %d %q:", b, text)
		for i := range k.Size(b) {
			w, _ := k.Load(b, i)
			fmt.Fprint(&s, " ", w)
		}
	}
	fmt.Fprint(&s, "; next ", k.Make(0, ""))
	return s.String()
}

// store is a heap, and what was laid there, by what is reckoned here: of each shelf its versions, the newest one first.
type store struct {
	config api.Config
	heap   *heap.Heap
	chains [][]version
}

type version struct {
	block, epoch uint64
	has          bool
	text         string
}

func open(c api.Config) *store {
	return &store{c, control(c), make([][]version, c.Shelves)}
}

// lay lays a version on a shelf, as its newest one.
func (s *store) lay(shelf int, epoch uint64, has bool, text string) {
	b := s.heap.Make(3, text)
	s.heap.Store(b, 0, epoch)
	if len(s.chains[shelf]) > 0 {
		s.heap.Store(b, 1, s.chains[shelf][0].block)
	}
	if has {
		s.heap.Store(b, 2, 1)
	}
	s.heap.Store(1, cellOf(s.config, shelf), b)
	s.chains[shelf] = append([]version{{b, epoch, has, text}}, s.chains[shelf]...)
}

// want is what is to be read of a shelf at an epoch, by how many acts, and the blocks that are touched.
func (s *store) want(shelf int, epoch uint64) (end, int, map[uint64]bool) {
	touched := map[uint64]bool{1: true}
	for i, v := range s.chains[shelf] {
		touched[v.block] = true
		if v.epoch > epoch {
			continue
		}
		if v.has {
			return end{Value{true, v.text, v.block}, i}, 1 + 2*i + 3, touched
		}
		return end{Value{false, "", v.block}, i}, 1 + 2*i + 2, touched
	}
	n := len(s.chains[shelf])
	return end{Value{}, n}, 1 + 2*n, touched
}

// check reads a shelf at an epoch, and holds what is read, by how many acts, of which blocks, and that the heap is as it was.
func (s *store) check(t *testing.T, shelf int, epoch uint64) Value {
	t.Helper()
	want, acts, touched := s.want(shelf, epoch)
	was := look(s.heap)
	x := New(s.config, shelf, epoch)
	n, seen := 0, map[uint64]bool{}
	for d := range drive.Steps(s.heap, x, 1000) {
		n++
		seen[d.Act.Block] = true
	}
	if n != acts || !maps.Equal(seen, touched) {
		t.Fatalf("%+v shelf %d at %d: %d acts, and not %d; touched %v, and not %v", s.config, shelf, epoch, n, acts, seen, touched)
	}
	if now := look(s.heap); now != was {
		t.Fatalf("%+v shelf %d at %d: the heap is %s, and was %s", s.config, shelf, epoch, now, was)
	}
	v, is := x.Result()
	if v != want.value || !is || x.Passed() != want.passed {
		t.Fatalf("%+v shelf %d at %d: %+v %v, passed %d, and not %+v", s.config, shelf, epoch, v, is, x.Passed(), want)
	}
	return v
}

// newest is the epoch of a shelf's newest version.
func (s *store) newest(shelf int) uint64 {
	if len(s.chains[shelf]) == 0 {
		return 0
	}
	return s.chains[shelf][0].epoch
}

// checkAll reads each shelf at each epoch from 0 to one above the newest, and at the greatest number.
func (s *store) checkAll(t *testing.T) {
	t.Helper()
	for shelf := range s.config.Shelves {
		for epoch := range s.newest(shelf) + 2 {
			s.check(t, shelf, epoch)
		}
		s.check(t, shelf, math.MaxUint64)
	}
	if n := s.heap.Faults(); n != 0 {
		t.Fatal(n, "faults")
	}
}
