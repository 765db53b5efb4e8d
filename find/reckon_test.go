package find

import (
	"fmt"
	"math"
	"math/rand"
	"strings"
	"testing"

	"philtre/api"
	"philtre/drive"
	"philtre/heap"
)

// What is handed in

var (
	seeds  = []uint64{0, 1, 2, 255, 1 << 32, 1<<63 - 1, 1 << 63, math.MaxUint64 - 1, math.MaxUint64}
	blocks = []uint64{1, 2, 3, 255, 256, 1<<31 - 1, 1 << 32, math.MaxInt64, 1 << 63, math.MaxUint64 - 1, math.MaxUint64}
)

// Configs that may be: the least one, the greatest one, and others.
var (
	least    = api.Config{Cap: 1, Pins: 1, Shelves: 1}
	greatest = api.Config{Cap: 32, Pins: 8, Shelves: 64, Queue: 64, Watchers: 8, Seed: math.MaxUint64}
	small    = api.Config{Cap: 2, Pins: 1, Shelves: 3}
	configs  = []api.Config{
		least, greatest, small,
		{Cap: 1, Pins: 1, Shelves: 2, Seed: 1},
		{Cap: 1, Pins: 8, Shelves: 5, Queue: 3, Seed: math.MaxUint64},
		{Cap: 32, Pins: 1, Shelves: 7, Watchers: 8, Seed: 1 << 63},
		{Cap: 3, Pins: 2, Shelves: 8, Queue: 64, Watchers: 1, Seed: 77},
		{Cap: 31, Pins: 7, Shelves: 63, Queue: 1, Watchers: 2, Seed: 1},
		{Cap: 1, Pins: 1, Shelves: 64},
		{Cap: 32, Pins: 8, Shelves: 1, Queue: 64, Watchers: 8, Seed: 1},
	}
)

// fields are the numbers of a config, and the least and the greatest that each may be.
var fields = []struct {
	name        string
	least, most int
	of          func(*api.Config) *int
}{
	{"Cap", 1, 32, func(c *api.Config) *int { return &c.Cap }},
	{"Pins", 1, 8, func(c *api.Config) *int { return &c.Pins }},
	{"Shelves", 1, 64, func(c *api.Config) *int { return &c.Shelves }},
	{"Queue", 0, 64, func(c *api.Config) *int { return &c.Queue }},
	{"Watchers", 0, 8, func(c *api.Config) *int { return &c.Watchers }},
}

// keys are empty, short and long, with bytes of all kinds, and some that begin with others.
func keys() []string {
	var every strings.Builder
	for b := range 256 {
		every.WriteByte(byte(b))
	}
	return []string{"", "k", "ke", "key", "kez", "\x00", "\x00\x00", "\n", " ", "\xff", "\xff\xfe", "é", "\xed\xa0\x80", "sixteen bytes..k", strings.Repeat("\xff", 16), every.String(), strings.Repeat("v", 4096), strings.Repeat("key", 2000)}
}

// others are texts that are not the key, but are like it.
func others(key string) []string {
	l := []string{key + "\x00", key + "k", key + " ", "\x00" + key, key + key + "x", "1" + key}
	if key != "" {
		last := len(key) - 1
		l = append(l, "", key[:last], key[1:], key[:last]+string([]byte{key[last] + 1}), key[:last]+string([]byte{key[last] ^ 0x20}), string([]byte{key[0] ^ 1})+key[1:], key+key)
	}
	return l
}

// anyWord is a word of any length.
func anyWord(r *rand.Rand) uint64 { return r.Uint64() >> r.Intn(65) }

func anyText(r *rand.Rand, most int) string {
	b := make([]byte, r.Intn(most+1))
	r.Read(b)
	return string(b)
}

func anyConfig(r *rand.Rand) api.Config {
	c := api.Config{Seed: anyWord(r)}
	for _, f := range fields {
		*f.of(&c) = f.least + r.Intn(f.most-f.least+1)
	}
	return c
}

// What it comes to, as it is reckoned here

// sumOf is a text's sum, begun at a seed.
func sumOf(seed uint64, s string) uint64 {
	n := seed ^ 14695981039346656037
	for _, c := range []byte(s) {
		n ^= uint64(c)
		n *= 1099511628211
		n ^= n / 536870912
	}
	return n
}

// wayOf is the shelves of a config on a key's way, one by one.
func wayOf(c api.Config, key string) []int {
	shelf := int(sumOf(c.Seed, key) % uint64(c.Shelves))
	var l []int
	for len(l) < c.Shelves {
		l = append(l, shelf)
		if shelf++; shelf == c.Shelves {
			shelf = 0
		}
	}
	return l
}

// cellOf is the cell of a shelf's key.
func cellOf(c api.Config, shelf int) int { return 3 + c.Pins + c.Cap + 2*shelf }

// loaded is the act that loads the cell of a shelf's key.
func loaded(c api.Config, shelf int) api.Act {
	return api.Act{Kind: 1, Block: 1, Cell: cellOf(c, shelf)}
}

// asked is the act that asks for a block's text.
func asked(block uint64) api.Act { return api.Act{Kind: 6, Block: block} }

// pace is an act, and what it is answered.
type pace struct {
	act api.Act
	got api.Got
}

// told is what a shelf's key is told to be: its block, 0 where there is none, and the block's text.
type told struct {
	block uint64
	text  string
}

// course is all acts with their answers, and what is found, where the shelves on the way are told to have these keys; behind the last one that is told all have none.
func course(c api.Config, key string, shelves []told) ([]pace, Found) {
	var l []pace
	for i, shelf := range wayOf(c, key) {
		var is told
		if i < len(shelves) {
			is = shelves[i]
		}
		l = append(l, pace{loaded(c, shelf), api.Got{Word: is.block}})
		if is.block == 0 {
			return l, Found{2, shelf}
		}
		l = append(l, pace{asked(is.block), api.Got{Text: is.text}})
		if is.text == key {
			return l, Found{1, shelf}
		}
	}
	return l, Found{3, 0}
}

// What is checked

// going holds that a routine is ahead of an act, however often it is asked, and not done.
func going(t *testing.T, what string, x *Find, want api.Act) {
	t.Helper()
	for range 3 {
		if a, more := x.Act(); a != want || !more {
			t.Fatalf("%s: %+v %v, and not %+v", what, a, more, want)
		}
		if f, is := x.Result(); f != (Found{}) || is {
			t.Fatalf("%s: Result is %+v %v ahead of the end", what, f, is)
		}
	}
}

// ended holds that a routine is done with what it found, however often it is asked, and whatever it is still answered.
func ended(t *testing.T, what string, x *Find, want Found) {
	t.Helper()
	for _, g := range []api.Got{{}, {Word: 7}, {Text: "x"}, {Text: "k"}, {Word: 1, Text: "y"}, {Word: math.MaxUint64}} {
		for range 2 {
			if a, more := x.Act(); a != (api.Act{}) || more {
				t.Fatalf("%s: %+v %v behind the end", what, a, more)
			}
			if f, is := x.Result(); f != want || !is {
				t.Fatalf("%s: Result is %+v %v, and not %+v", what, f, is, want)
			}
		}
		x.Take(g)
	}
}

// nothing holds that a routine has no act and no result, whatever it is answered.
func nothing(t *testing.T, what string, x *Find) {
	t.Helper()
	for _, g := range []api.Got{{}, {Word: 1}, {Word: math.MaxUint64, Text: "x"}, {}, {Word: 2}, {Text: "k"}, {Text: "y"}} {
		for range 2 {
			if a, more := x.Act(); a != (api.Act{}) || more {
				t.Fatalf("%s: %+v %v", what, a, more)
			}
			if f, is := x.Result(); f != (Found{}) || is {
				t.Fatalf("%s: Result is %+v %v", what, f, is)
			}
		}
		x.Take(g)
	}
}

// through goes through a routine, and holds that it does just these acts, and what it found then.
func through(t *testing.T, what string, x *Find, l []pace, want Found) {
	t.Helper()
	for i, p := range l {
		going(t, fmt.Sprint(what, ": act ", i), x, p.act)
		x.Take(p.got)
	}
	ended(t, what, x, want)
}

// same is n shelves that are all told to have one block and one text.
func same(n int, block uint64, text string) []told {
	l := make([]told, n)
	for i := range l {
		l[i] = told{block, text}
	}
	return l
}

// Heaps

// control is a heap whose first block is the control block of a config: each cell that is of no key has a word, and the keys' cells have none.
func control(c api.Config) *heap.Heap {
	h := heap.New()
	h.Make(3+c.Pins+c.Cap+2*c.Shelves, "")
	for i := range h.Size(1) {
		h.Store(1, i, uint64(1000+i))
	}
	for shelf := range c.Shelves {
		h.Store(1, cellOf(c, shelf), 0)
	}
	return h
}

// put puts a key on a shelf, as who lays does.
func put(h *heap.Heap, c api.Config, shelf int, key string) uint64 {
	b := h.Make(0, key)
	h.Store(1, cellOf(c, shelf), b)
	return b
}

// look is all that a heap tells, as a text; nothing changes by that.
func look(h *heap.Heap) string {
	k := h.Copy()
	var s strings.Builder
	fmt.Fprint(&s, k.Locked(), " ", k.Faults())
	for _, b := range k.Blocks() {
		text, _ := k.Words(b)
		fmt.Fprintf(&s, "; %d %q:", b, text)
		for i := range k.Size(b) {
			w, _ := k.Load(b, i)
			fmt.Fprint(&s, " ", w)
		}
	}
	fmt.Fprint(&s, "; next ", k.Make(0, ""))
	return s.String()
}

// find drives a routine alone, and holds that the heap is as it was, and how many acts that were.
func find(t *testing.T, h *heap.Heap, c api.Config, key string, acts int) Found {
	t.Helper()
	was := look(h)
	x := New(c, key)
	n, is := drive.Alone(h, x, 1000)
	if n != acts || !is {
		t.Fatalf("%+v %.40q: %d acts %v, and not %d", c, key, n, is, acts)
	}
	if now := look(h); now != was {
		t.Fatalf("%+v %.40q: the heap is %s, and was %s", c, key, now, was)
	}
	f, is := x.Result()
	if !is {
		t.Fatalf("%+v %.40q: no result", c, key)
	}
	return f
}

// shop is a heap, and what was put there, by what is reckoned here.
type shop struct {
	config  api.Config
	heap    *heap.Heap
	keys    map[int]string // by their shelves
	shelves map[string]int // by their keys
}

func open(c api.Config) *shop {
	return &shop{c, control(c), map[int]string{}, map[string]int{}}
}

// want is what is to be found of a key, and by how many acts.
func (s *shop) want(key string) (Found, int) {
	for i, shelf := range wayOf(s.config, key) {
		there, has := s.keys[shelf]
		if !has {
			return Found{2, shelf}, 2*i + 1
		}
		if there == key {
			return Found{1, shelf}, 2*i + 2
		}
	}
	return Found{3, 0}, 2 * s.config.Shelves
}

// check looks for a key, and holds what is found.
func (s *shop) check(t *testing.T, key string) Found {
	t.Helper()
	want, acts := s.want(key)
	f := find(t, s.heap, s.config, key, acts)
	if f != want {
		t.Fatalf("%+v %.40q: %+v, and not %+v", s.config, key, f, want)
	}
	shelf, is := s.shelves[key]
	if is != (f.Kind == Here) || is && shelf != f.Shelf {
		t.Fatalf("%+v %.40q: %+v, and it was put %v on %d", s.config, key, f, is, shelf)
	}
	return f
}

// enter looks for a key, and puts it on the shelf that is Free for it; false, if it found no room.
func (s *shop) enter(t *testing.T, key string) bool {
	t.Helper()
	f := s.check(t, key)
	if f.Kind == Free {
		put(s.heap, s.config, f.Shelf, key)
		s.keys[f.Shelf], s.shelves[key] = key, f.Shelf
	}
	return f.Kind != Taken
}
