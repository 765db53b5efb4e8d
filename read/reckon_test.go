package read

import (
	"fmt"
	"math"
	"math/rand"
	"strings"
	"testing"

	"philtre/api"
	"philtre/drive"
	"philtre/heap"
)

// What is handed in

var (
	seeds   = []uint64{0, 1, 2, 255, 1 << 32, 1<<63 - 1, 1 << 63, math.MaxUint64}
	epochs  = []uint64{0, 1, 2, 3, 255, 1 << 32, math.MaxInt64, 1 << 63, math.MaxUint64 - 1, math.MaxUint64}
	blocks  = []uint64{1, 2, 3, 255, 1 << 32, math.MaxInt64, 1 << 63, math.MaxUint64}
	lives   = []uint64{0, 1, 2, 256, 1 << 32, 1 << 63, math.MaxUint64}
	threads = []int{0, 1, 2, 3, 7, 8, 9, 100, 1<<31 - 1, 1 << 31, math.MaxInt - 1, math.MaxInt}
)

// Configs that may be: the least one, the greatest one, and others.
var (
	least    = api.Config{Cap: 1, Pins: 1, Shelves: 1}
	greatest = api.Config{Cap: 32, Pins: 8, Shelves: 64, Queue: 64, Watchers: 8, Seed: math.MaxUint64}
	small    = api.Config{Cap: 2, Pins: 3, Shelves: 3}
	configs  = []api.Config{
		least, greatest, small,
		{Cap: 1, Pins: 2, Shelves: 2, Seed: 1},
		{Cap: 1, Pins: 8, Shelves: 5, Queue: 3, Seed: math.MaxUint64},
		{Cap: 32, Pins: 1, Shelves: 7, Watchers: 8, Seed: 1 << 63},
		{Cap: 3, Pins: 4, Shelves: 8, Queue: 64, Watchers: 1, Seed: 77},
		{Cap: 31, Pins: 7, Shelves: 63, Queue: 1, Watchers: 2, Seed: 1},
		{Cap: 1, Pins: 5, Shelves: 64},
		{Cap: 32, Pins: 6, Shelves: 1, Queue: 64, Watchers: 8, Seed: 1},
	}
)

// fields are the numbers of a config, and the least and the greatest that each may be.
var fields = []struct {
	name        string
	least, most int
	of          func(*api.Config) *int
}{
	{"Cap", 1, 32, func(c *api.Config) *int { return &c.Cap }},
	{"Pins", 1, 8, func(c *api.Config) *int { return &c.Pins }},
	{"Shelves", 1, 64, func(c *api.Config) *int { return &c.Shelves }},
	{"Queue", 0, 64, func(c *api.Config) *int { return &c.Queue }},
	{"Watchers", 0, 8, func(c *api.Config) *int { return &c.Watchers }},
}

// beyond is all configs that one number beyond its ends makes of this one.
func beyond(from api.Config) []api.Config {
	var l []api.Config
	for _, f := range fields {
		for _, n := range []int{math.MinInt, -1 << 32, -64, -2, -1, f.least - 1, f.most + 1, f.most + 2, 2*f.most + 1, 256, 1 << 16, 1 << 32, 1<<32 + 1, math.MaxInt - 1, math.MaxInt} {
			if n < f.least || n > f.most {
				c := from
				*f.of(&c) = n
				l = append(l, c)
			}
		}
	}
	return l
}

// texts are empty, short and long, with bytes of all kinds.
func texts() []string {
	var every strings.Builder
	for b := range 256 {
		every.WriteByte(byte(b))
	}
	return []string{"", "k", "key", "kez", "\x00", "\x00\x00", "\n", " ", "\xff", "\xff\xfe", "é", "\xed\xa0\x80", "sixteen bytes..k", strings.Repeat("\xff", 32), every.String(), strings.Repeat("v", 4096), strings.Repeat("text", 2000)}
}

// anyWord is a word of any length.
func anyWord(r *rand.Rand) uint64 { return r.Uint64() >> r.Intn(65) }

func anyText(r *rand.Rand, most int) string {
	b := make([]byte, r.Intn(most+1))
	r.Read(b)
	return string(b)
}

func anyConfig(r *rand.Rand) api.Config {
	c := api.Config{Seed: anyWord(r)}
	for _, f := range fields {
		*f.of(&c) = f.least + r.Intn(f.most-f.least+1)
	}
	return c
}

// What it comes to, as it is reckoned here

// sumOf is a text's sum, begun at a seed.
func sumOf(seed uint64, s string) uint64 {
	n := seed ^ 14695981039346656037
	for _, c := range []byte(s) {
		n ^= uint64(c)
		n *= 1099511628211
		n ^= n / 536870912
	}
	return n
}

// wayOf is the shelves of a config on a key's way, one by one.
func wayOf(c api.Config, key string) []int {
	shelf := int(sumOf(c.Seed, key) % uint64(c.Shelves))
	var l []int
	for len(l) < c.Shelves {
		l = append(l, shelf)
		if shelf++; shelf == c.Shelves {
			shelf = 0
		}
	}
	return l
}

// pinCell is the cell of a pin, keyCell that of a shelf's key, and headCell that of its newest version.
func pinCell(pin int) int                      { return 3 + pin }
func keyCell(c api.Config, shelf int) int      { return 3 + c.Pins + c.Cap + 2*shelf }
func headCell(c api.Config, shelf int) int     { return keyCell(c, shelf) + 1 }
func loaded(block uint64, cell int) api.Act    { return api.Act{Kind: 1, Block: block, Cell: cell} }
func asked(block uint64) api.Act               { return api.Act{Kind: 6, Block: block} }
func stored(cell int, word uint64) api.Act     { return api.Act{Kind: 2, Block: 1, Cell: cell, New: word} }
func swapped(cell int, word uint64) api.Act    { return api.Act{Kind: 3, Block: 1, Cell: cell, New: word} }
func word(act api.Act, word uint64) pace       { return pace{act, api.Got{Word: word}} }
func text(block uint64, text string) pace      { return pace{asked(block), api.Got{Text: text}} }
func at(block uint64, cell int, w uint64) pace { return word(loaded(block, cell), w) }

// pace is an act, and what it is answered.
type pace struct {
	act api.Act
	got api.Got
}

// end is what it comes to: the fields of a Told that are not zero.
type end struct {
	code  api.Code
	took  bool
	value string
	mark  int
}

// endOf is what a Told comes to, and whether all its other fields are zero.
func endOf(x api.Told) (end, bool) {
	r := x.Reply
	zero := r.Id == api.Id{} && len(r.Pairs) == 0 && r.N == 0 && len(r.Changes) == 0 && x.Epoch == 0
	return end{r.Code, r.Took, r.Value, x.Mark}, zero
}

// tooMany is what it comes to, if all pins are taken.
var tooMany = end{code: 11}

// keyed is what a shelf's key is told to be: its block, 0 where there is none, and the block's text.
type keyed struct {
	block uint64
	text  string
}

// laid is what is told of a version: its block, what stands in its cells Epoch and Live, and its text.
type laid struct {
	block, epoch, live uint64
	text               string
}

// tale is all that a routine is answered: the epoch, what the swaps are answered, the epoch again, the keys along the way, and the chain of the shelf of the one that is it. Where no more swaps are told, the next pin is free, where no more epochs are told, it is the same again, and where no more keys are told, the next shelf has none.
type tale struct {
	epoch        uint64
	swaps, again []uint64
	keys         []keyed
	chain        []laid
}

// course is all acts with their answers, and what it comes to.
func (x tale) course(c api.Config, thread int, key string) ([]pace, end) {
	l, pin, epoch := x.pinning(c, thread)
	if pin < 0 {
		return l, tooMany
	}
	is := end{mark: len(l)}
	finding, shelf := x.finding(c, key)
	l = append(l, finding...)
	if shelf >= 0 {
		chain, has, value := x.reading(c, shelf, epoch)
		l = append(l, chain...)
		is.took, is.value = has, value
	}
	return append(l, pace{act: stored(pinCell(pin), 0)}), is
}

// pinning is the acts of pinning, the pin (-1: all are taken), and the epoch that is pinned.
func (x tale) pinning(c api.Config, thread int) ([]pace, int, uint64) {
	epoch := x.epoch
	l := []pace{at(1, 0, epoch)}
	for i := range c.Pins {
		pin := (thread%c.Pins + i) % c.Pins
		if i < len(x.swaps) && x.swaps[i] != 0 {
			l = append(l, word(swapped(pinCell(pin), epoch+1), x.swaps[i]))
			continue
		}
		l = append(l, word(swapped(pinCell(pin), epoch+1), 0))
		for _, now := range x.again {
			l = append(l, at(1, 0, now))
			if now == epoch {
				return l, pin, epoch
			}
			epoch = now
			l = append(l, pace{act: stored(pinCell(pin), epoch+1)})
		}
		return append(l, at(1, 0, epoch)), pin, epoch
	}
	return l, -1, 0
}

// finding is the acts of finding, and the shelf that has the key; -1, if none has.
func (x tale) finding(c api.Config, key string) ([]pace, int) {
	var l []pace
	for i, shelf := range wayOf(c, key) {
		var is keyed
		if i < len(x.keys) {
			is = x.keys[i]
		}
		l = append(l, at(1, keyCell(c, shelf), is.block))
		if is.block == 0 {
			return l, -1
		}
		l = append(l, text(is.block, is.text))
		if is.text == key {
			return l, shelf
		}
	}
	return l, -1
}

// reading is the acts of reading a shelf's chain, and whether there is a value, and which one.
func (x tale) reading(c api.Config, shelf int, epoch uint64) ([]pace, bool, string) {
	var l []pace
	from := loaded(1, headCell(c, shelf))
	for _, v := range x.chain {
		l = append(l, word(from, v.block), at(v.block, 0, v.epoch))
		if v.epoch > epoch {
			from = loaded(v.block, 1)
			continue
		}
		l = append(l, at(v.block, 2, v.live))
		if v.live == 0 {
			return l, false, ""
		}
		return append(l, text(v.block, v.text)), true, v.text
	}
	return append(l, word(from, 0)), false, ""
}

// all is n times one thing.
func all[T any](n int, one T) []T {
	l := make([]T, n)
	for i := range l {
		l[i] = one
	}
	return l
}

// What is checked

// going holds that a routine is ahead of its act i, however often it is asked, and not done.
func going(t *testing.T, what string, i int, x *Read, want api.Act) {
	t.Helper()
	for range 2 {
		if a, more := x.Act(); a != want || !more {
			t.Fatalf("%s: act %d is %+v %v, and not %+v", what, i, a, more, want)
		}
		unsaid(t, what, x)
	}
}

// unsaid holds that there is no result.
func unsaid(t *testing.T, what string, x *Read) {
	t.Helper()
	told, is := x.Result()
	if got, zero := endOf(told); got != (end{}) || !zero || is {
		t.Fatalf("%s: Result is %+v %v ahead of the end", what, told, is)
	}
}

// said holds what the result is.
func said(t *testing.T, what string, x *Read, want end) {
	t.Helper()
	told, is := x.Result()
	if got, zero := endOf(told); got != want || !zero || !is {
		t.Fatalf("%s: Result is %.300v %v, and not %.300v", what, told, is, want)
	}
}

// ended holds that a routine is done with what it came to, however often it is asked, and whatever it is still answered.
func ended(t *testing.T, what string, x *Read, want end) {
	t.Helper()
	for _, g := range []api.Got{{}, {Word: 7}, {Text: "x"}, {Text: "k"}, {Word: 1, Text: "y"}, {}, {Word: math.MaxUint64}} {
		for range 2 {
			if a, more := x.Act(); a != (api.Act{}) || more {
				t.Fatalf("%s: %+v %v behind the end", what, a, more)
			}
			said(t, what, x, want)
		}
		x.Take(g)
	}
}

// nothing holds that a routine has no act and no result, whatever it is answered.
func nothing(t *testing.T, what string, x *Read) {
	t.Helper()
	for _, g := range []api.Got{{}, {Word: 1}, {Word: math.MaxUint64, Text: "x"}, {}, {Word: 2}, {Text: "k"}, {Text: "y"}, {}, {}} {
		for range 2 {
			if a, more := x.Act(); a != (api.Act{}) || more {
				t.Fatalf("%s: %+v %v", what, a, more)
			}
			unsaid(t, what, x)
		}
		x.Take(g)
	}
}

// through goes through a routine, and holds that it does just these acts, and what it came to then.
func through(t *testing.T, what string, x *Read, l []pace, want end) {
	t.Helper()
	for i, p := range l {
		going(t, what, i, x, p.act)
		x.Take(p.got)
	}
	ended(t, what, x, want)
}

// follows holds all of that of what is told.
func follows(t *testing.T, c api.Config, thread int, key string, is tale) end {
	t.Helper()
	l, want := is.course(c, thread, key)
	through(t, fmt.Sprintf("%+v thread %d key %.40q: %.300v", c, thread, key, is), New(c, thread, key), l, want)
	return want
}

// Heaps

// store is a heap, and what was put and laid there, by what is reckoned here: the shelves' keys, the keys' shelves, and of each shelf its versions, the newest one first.
type store struct {
	config  api.Config
	heap    *heap.Heap
	keys    map[int]string
	shelves map[string]int
	chains  [][]version
}

type version struct {
	block, epoch uint64
	has          bool
	text         string
}

// open is a heap whose first block is the control block of a config: its pins are free, its epoch is 0, its shelves are empty, and each other cell has a word.
func open(c api.Config) *store {
	h := heap.New()
	h.Make(3+c.Pins+c.Cap+2*c.Shelves, "")
	for i := range h.Size(1) {
		h.Store(1, i, uint64(1000+i))
	}
	for shelf := range c.Shelves {
		h.Store(1, keyCell(c, shelf), 0)
		h.Store(1, headCell(c, shelf), 0)
	}
	for pin := range c.Pins {
		h.Store(1, pinCell(pin), 0)
	}
	h.Store(1, 0, 0)
	return &store{c, h, map[int]string{}, map[string]int{}, make([][]version, c.Shelves)}
}

// shelf is a key's shelf, or else the one that is free for it; -1, if there is neither.
func (s *store) shelf(key string) int {
	for _, shelf := range wayOf(s.config, key) {
		if there, has := s.keys[shelf]; !has || there == key {
			return shelf
		}
	}
	return -1
}

// put puts a key on the shelf that is free for it; false, if all have other keys.
func (s *store) put(key string) bool {
	shelf := s.shelf(key)
	if shelf < 0 {
		return false
	}
	if _, has := s.keys[shelf]; !has {
		s.heap.Store(1, keyCell(s.config, shelf), s.heap.Make(0, key))
		s.keys[shelf], s.shelves[key] = key, shelf
	}
	return true
}

// lay lays a version of a key, and puts the key, if nobody has.
func (s *store) lay(key string, epoch uint64, has bool, text string) bool {
	shelf := s.shelf(key)
	if shelf < 0 {
		return false
	}
	b := s.heap.Make(3, text)
	s.heap.Store(b, 0, epoch)
	if len(s.chains[shelf]) > 0 {
		s.heap.Store(b, 1, s.chains[shelf][0].block)
	}
	if has {
		s.heap.Store(b, 2, 1)
	}
	s.heap.Store(1, headCell(s.config, shelf), b)
	s.chains[shelf] = append([]version{{b, epoch, has, text}}, s.chains[shelf]...)
	return s.put(key)
}

// reach lets the epoch be this one.
func (s *store) reach(epoch uint64) { s.heap.Store(1, 0, epoch) }

// epoch is the epoch that is now, and newest the greatest one of all versions.
func (s *store) epoch() uint64 { return s.cell(0) }

func (s *store) newest() uint64 {
	var most uint64
	for _, l := range s.chains {
		if len(l) > 0 {
			most = max(most, l[0].epoch)
		}
	}
	return most
}

// cell is the word of a cell of the control block.
func (s *store) cell(i int) uint64 {
	word, _ := s.heap.Copy().Load(1, i)
	return word
}

// want is the value that a key has at an epoch, whether it has one, and how many acts it takes to find and read that.
func (s *store) want(key string, epoch uint64) (bool, string, int) {
	acts := 0
	for _, shelf := range wayOf(s.config, key) {
		acts++
		there, has := s.keys[shelf]
		if !has {
			return false, "", acts
		}
		if acts++; there == key {
			break
		}
	}
	shelf, is := s.shelves[key]
	if !is {
		return false, "", acts
	}
	acts++
	for _, v := range s.chains[shelf] {
		acts += 2
		if v.epoch > epoch {
			continue
		}
		if !v.has {
			return false, "", acts
		}
		return true, v.text, acts + 1
	}
	return false, "", acts
}

// taken lets those pins be taken by others whose digit is 1, and the others be free.
func (s *store) taken(which int) {
	for pin := range s.config.Pins {
		s.heap.Store(1, pinCell(pin), uint64(which>>pin&1*(pin+1)))
	}
}

// check reads a key alone, and holds what it comes to, by how many acts, and that the heap is as it was.
func (s *store) check(t *testing.T, thread int, key string) end {
	t.Helper()
	what := fmt.Sprintf("%+v thread %d key %.40q at %d", s.config, thread, key, s.epoch())
	has, value, rest := s.want(key, s.epoch())
	want, acts := tooMany, s.config.Pins+1
	for i := range s.config.Pins {
		if s.cell(pinCell((thread%s.config.Pins+i)%s.config.Pins)) == 0 {
			want = end{took: has, value: value, mark: i + 3}
			acts = i + 3 + rest + 1
			break
		}
	}
	was := look(s.heap)
	x := New(s.config, thread, key)
	if n, is := drive.Alone(s.heap, x, 1000); n != acts || !is {
		t.Fatalf("%s: %d acts %v, and not %d", what, n, is, acts)
	}
	if now := look(s.heap); now != was {
		t.Fatalf("%s: the heap is %s, and was %s", what, now, was)
	}
	said(t, what, x, want)
	return want
}

// checkAll reads these keys at each epoch from 0 to one above the newest, and holds that no fault is counted.
func (s *store) checkAll(t *testing.T, thread int, keys []string) {
	t.Helper()
	for epoch := range s.newest() + 2 {
		s.reach(epoch)
		for _, key := range keys {
			s.check(t, thread, key)
		}
	}
	if n := s.heap.Faults(); n != 0 {
		t.Fatal(n, "faults")
	}
}

// look is all that a heap tells, as a text; nothing changes by that.
func look(h *heap.Heap) string {
	k := h.Copy()
	var s strings.Builder
	fmt.Fprint(&s, k.Locked(), " ", k.Faults())
	for _, b := range k.Blocks() {
		text, _ := k.Words(b)
		fmt.Fprintf(&s, "; %d %q:", b, text)
		for i := range k.Size(b) {
			w, _ := k.Load(b, i)
			fmt.Fprint(&s, " ", w)
		}
	}
	fmt.Fprint(&s, "; next ", k.Make(0, ""))
	return s.String()
}

// While others go on

// chase is a read that is driven step by step on a store, while the epoch goes on.
type chase struct {
	store   *store
	thread  int
	key     string
	read    *Read
	acts    int
	changes int    // how often the epoch's cell changed from the first act on
	pin     int    // the cell of the pin that was had; -1 ahead of that
	pinned  uint64 // what was stored there last, less 1
}

func (s *store) chase(thread int, key string) *chase {
	return &chase{store: s, thread: thread, key: key, read: New(s.config, thread, key), pin: -1}
}

// step does the read's next act, and holds that it is of a kind that it may be; false, if it is done.
func (x *chase) step(t *testing.T) bool {
	t.Helper()
	d, more := drive.Next(x.store.heap, x.read)
	if !more {
		return false
	}
	x.acts++
	switch d.Act.Kind {
	case api.Load, api.Words:
	case api.Swap:
		if d.Got.Word == 0 {
			x.pin, x.pinned = d.Act.Cell, d.Act.New-1
		}
	case api.Store:
		if d.Act.Block != 1 || d.Act.Cell != x.pin {
			t.Fatalf("%+v", d.Act)
		}
		if d.Act.New != 0 {
			x.pinned = d.Act.New - 1
		}
	default:
		t.Fatalf("%+v", d.Act)
	}
	return true
}

// advance lets the epoch go on, and counts that, if the read is under way.
func (x *chase) advance() {
	x.store.reach(x.store.epoch() + 1)
	if x.acts > 0 {
		x.changes++
	}
}

// finish drives the read to its end, and holds how many acts it took, what it read, and that its pin is free.
func (x *chase) finish(t *testing.T, what string) {
	t.Helper()
	for x.step(t) {
	}
	if most := Most(x.store.config, x.changes); x.acts > most || most != 9+x.store.config.Pins+2*x.store.config.Shelves+4*x.changes {
		t.Fatalf("%s: %d acts, and %d at the most, with %d changes", what, x.acts, most, x.changes)
	}
	has, value, _ := x.store.want(x.key, x.pinned)
	told, is := x.read.Result()
	if told.Reply.Took != has || told.Reply.Value != value || told.Reply.Code != 0 || told.Mark < 3 || !is {
		t.Fatalf("%s: %+v %v, and at %d it had %v %q", what, told, is, x.pinned, has, value)
	}
	if x.store.cell(x.pin) != 0 || x.store.heap.Faults() != 0 || x.store.heap.Locked() {
		t.Fatalf("%s: %s", what, look(x.store.heap))
	}
}
