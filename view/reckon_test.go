package view

import (
	"fmt"
	"maps"
	"math"
	"math/rand"
	"slices"
	"strconv"
	"strings"
	"testing"

	"philtre/api"
	"philtre/drive"
	"philtre/find"
	"philtre/heap"
	"philtre/read"
	"philtre/shelf"
)

// What is handed in

var (
	epochs  = []uint64{0, 1, 2, 3, 255, 1 << 32, math.MaxInt64, 1 << 63, math.MaxUint64 - 1, math.MaxUint64}
	blocks  = []uint64{1, 2, 3, 255, 1 << 32, math.MaxInt64, 1 << 63, math.MaxUint64}
	lives   = []uint64{0, 1, 2, 256, 1 << 32, 1 << 63, math.MaxUint64}
	threads = []int{0, 1, 2, 3, 7, 8, 9, 100, 1<<31 - 1, 1 << 31, math.MaxInt - 1, math.MaxInt}
)

// Configs that may be: the least one, the greatest one, and others.
var (
	least    = api.Config{Cap: 1, Pins: 1, Shelves: 1}
	greatest = api.Config{Cap: 32, Pins: 8, Shelves: 64, Queue: 64, Watchers: 8, Seed: math.MaxUint64}
	small    = api.Config{Cap: 2, Pins: 3, Shelves: 3}
	configs  = []api.Config{
		least, greatest, small,
		{Cap: 1, Pins: 2, Shelves: 2, Seed: 1},
		{Cap: 1, Pins: 8, Shelves: 5, Queue: 3, Seed: math.MaxUint64},
		{Cap: 32, Pins: 1, Shelves: 7, Watchers: 8, Seed: 1 << 63},
		{Cap: 3, Pins: 4, Shelves: 8, Queue: 64, Watchers: 1, Seed: 77},
		{Cap: 31, Pins: 7, Shelves: 63, Queue: 1, Watchers: 2, Seed: 1},
		{Cap: 1, Pins: 5, Shelves: 64},
		{Cap: 32, Pins: 6, Shelves: 1, Queue: 64, Watchers: 8, Seed: 1},
	}
)

// fields are the numbers of a config, and the least and the greatest that each may be.
var fields = []struct {
	name        string
	least, most int
	of          func(*api.Config) *int
}{
	{"Cap", 1, 32, func(c *api.Config) *int { return &c.Cap }},
	{"Pins", 1, 8, func(c *api.Config) *int { return &c.Pins }},
	{"Shelves", 1, 64, func(c *api.Config) *int { return &c.Shelves }},
	{"Queue", 0, 64, func(c *api.Config) *int { return &c.Queue }},
	{"Watchers", 0, 8, func(c *api.Config) *int { return &c.Watchers }},
}

// beyond is all configs that one number beyond its ends makes of this one.
func beyond(from api.Config) []api.Config {
	var l []api.Config
	for _, f := range fields {
		for _, n := range []int{math.MinInt, -1 << 32, -64, -2, -1, f.least - 1, f.most + 1, f.most + 2, 2*f.most + 1, 256, 1 << 16, 1 << 32, 1<<32 + 1, math.MaxInt - 1, math.MaxInt} {
			if n < f.least || n > f.most {
				c := from
				*f.of(&c) = n
				l = append(l, c)
			}
		}
	}
	return l
}

// texts are empty, short and long, with bytes of all kinds, in no order.
func texts() []string {
	var every strings.Builder
	for b := range 256 {
		every.WriteByte(byte(b))
	}
	return []string{"k", "", "key", "\xff", "kez", "\x00", "\x00\x00", "\n", "é", " ", "\xff\xfe", "\xed\xa0\x80", "sixteen bytes..k", strings.Repeat("\xff", 32), every.String(), strings.Repeat("v", 4096), strings.Repeat("text", 2000)}
}

// anyWord is a word of any length.
func anyWord(r *rand.Rand) uint64 { return r.Uint64() >> r.Intn(65) }

func anyText(r *rand.Rand, most int) string {
	b := make([]byte, r.Intn(most+1))
	r.Read(b)
	return string(b)
}

func anyConfig(r *rand.Rand) api.Config {
	c := api.Config{Seed: anyWord(r)}
	for _, f := range fields {
		*f.of(&c) = f.least + r.Intn(f.most-f.least+1)
	}
	return c
}

// What it comes to, as it is reckoned here

// pinCell is the cell of a pin, keyCell that of a shelf's key, and headCell that of its newest version.
func pinCell(pin int) int                      { return 3 + pin }
func keyCell(c api.Config, shelf int) int      { return 3 + c.Pins + c.Cap + 2*shelf }
func headCell(c api.Config, shelf int) int     { return keyCell(c, shelf) + 1 }
func loaded(block uint64, cell int) api.Act    { return api.Act{Kind: 1, Block: block, Cell: cell} }
func stored(cell int, word uint64) api.Act     { return api.Act{Kind: 2, Block: 1, Cell: cell, New: word} }
func swapped(cell int, word uint64) api.Act    { return api.Act{Kind: 3, Block: 1, Cell: cell, New: word} }
func asked(block uint64) api.Act               { return api.Act{Kind: 6, Block: block} }
func word(act api.Act, word uint64) pace       { return pace{act, api.Got{Word: word}} }
func text(block uint64, text string) pace      { return pace{asked(block), api.Got{Text: text}} }
func at(block uint64, cell int, w uint64) pace { return word(loaded(block, cell), w) }

// pace is an act, and what it is answered.
type pace struct {
	act api.Act
	got api.Got
}

// end is what it comes to: the fields of a Told that are not zero, the pairs as a text.
type end struct {
	code  api.Code
	pairs string
	mark  int
}

// endOf is what a Told comes to, and whether all its other fields are zero.
func endOf(x api.Told) (end, bool) {
	r := x.Reply
	zero := r.Id == api.Id{} && !r.Took && r.Value == "" && r.N == 0 && len(r.Changes) == 0 && x.Epoch == 0
	return end{r.Code, written(r.Pairs), x.Mark}, zero
}

// written is pairs as a text, in their order: "a"="1" "b"="2".
func written(l []api.Pair) string {
	var words []string
	for _, p := range l {
		words = append(words, strconv.Quote(p.Key)+"="+strconv.Quote(p.Value))
	}
	return strings.Join(words, " ")
}

// rising is the pairs of a map, by their keys.
func rising(m map[string]string) []api.Pair {
	var l []api.Pair
	for key, value := range m {
		l = append(l, api.Pair{Key: key, Value: value})
	}
	slices.SortFunc(l, func(a, b api.Pair) int { return strings.Compare(a.Key, b.Key) })
	return l
}

// tooMany is what it comes to, if all pins are taken.
var tooMany = end{code: 11}

// laid is what is told of a version: its block, what stands in its cells Epoch and Live, and its text.
type laid struct {
	block, epoch, live uint64
	text               string
}

// stand is what is told of a shelf: its key's block, 0 where there is none, that block's text, and its chain.
type stand struct {
	block uint64
	key   string
	chain []laid
}

// holding is a shelf whose key has a value at any epoch, and lacking one whose key has none.
func holding(key, value string) stand { return stand{5, key, []laid{{9, 0, 1, value}}} }
func lacking(key string) stand        { return stand{6, key, []laid{{8, 0, 0, "none"}}} }

// tale is all that a routine is answered: the epoch, what the swaps are answered, the epoch again, and what stands on the shelves. Where no more swaps are told, the next pin is free, where no more epochs are told, it is the same again, and where no more shelves are told, they have no key.
type tale struct {
	epoch        uint64
	swaps, again []uint64
	shelves      []stand
}

// course is all acts with their answers, and what it comes to.
func (x tale) course(c api.Config, thread int) ([]pace, end) {
	l, pin, epoch := x.pinning(c, thread)
	if pin < 0 {
		return l, tooMany
	}
	is := end{mark: len(l)}
	values := map[string]string{}
	for shelf := range c.Shelves {
		var s stand
		if shelf < len(x.shelves) {
			s = x.shelves[shelf]
		}
		l = append(l, at(1, keyCell(c, shelf), s.block))
		if s.block == 0 {
			continue
		}
		chain, has, value := s.reading(c, shelf, epoch)
		l = append(append(l, text(s.block, s.key)), chain...)
		if has {
			values[s.key] = value
		}
	}
	is.pairs = written(rising(values))
	return append(l, pace{act: stored(pinCell(pin), 0)}), is
}

// pinning is the acts of pinning, the pin (-1: all are taken), and the epoch that is pinned.
func (x tale) pinning(c api.Config, thread int) ([]pace, int, uint64) {
	epoch := x.epoch
	l := []pace{at(1, 0, epoch)}
	for i := range c.Pins {
		pin := (thread%c.Pins + i) % c.Pins
		if i < len(x.swaps) && x.swaps[i] != 0 {
			l = append(l, word(swapped(pinCell(pin), epoch+1), x.swaps[i]))
			continue
		}
		l = append(l, word(swapped(pinCell(pin), epoch+1), 0))
		for _, now := range x.again {
			l = append(l, at(1, 0, now))
			if now == epoch {
				return l, pin, epoch
			}
			epoch = now
			l = append(l, pace{act: stored(pinCell(pin), epoch+1)})
		}
		return append(l, at(1, 0, epoch)), pin, epoch
	}
	return l, -1, 0
}

// reading is the acts of reading a shelf's chain, and whether there is a value, and which one.
func (s stand) reading(c api.Config, shelf int, epoch uint64) ([]pace, bool, string) {
	var l []pace
	from := loaded(1, headCell(c, shelf))
	for _, v := range s.chain {
		l = append(l, word(from, v.block), at(v.block, 0, v.epoch))
		if v.epoch > epoch {
			from = loaded(v.block, 1)
			continue
		}
		l = append(l, at(v.block, 2, v.live))
		if v.live == 0 {
			return l, false, ""
		}
		return append(l, text(v.block, v.text)), true, v.text
	}
	return append(l, word(from, 0)), false, ""
}

// all is n times one thing.
func all[T any](n int, one T) []T {
	l := make([]T, n)
	for i := range l {
		l[i] = one
	}
	return l
}

// orders is all orders of numbers from 0 to n - 1.
func orders(n int) [][]int {
	if n == 0 {
		return [][]int{nil}
	}
	var l [][]int
	for _, o := range orders(n - 1) {
		for i := range n {
			l = append(l, slices.Insert(slices.Clone(o), i, n-1))
		}
	}
	return l
}

// What is checked

// going holds that a routine is ahead of its act i, however often it is asked, and not done.
func going(t *testing.T, what string, i int, x *View, want api.Act) {
	t.Helper()
	for range 2 {
		if a, more := x.Act(); a != want || !more {
			t.Fatalf("%s: act %d is %+v %v, and not %+v", what, i, a, more, want)
		}
		unsaid(t, what, x)
	}
}

// unsaid holds that there is no result.
func unsaid(t *testing.T, what string, x *View) {
	t.Helper()
	told, is := x.Result()
	if got, zero := endOf(told); got != (end{}) || !zero || is {
		t.Fatalf("%s: Result is %+v %v ahead of the end", what, told, is)
	}
}

// said holds what the result is.
func said(t *testing.T, what string, x *View, want end) {
	t.Helper()
	told, is := x.Result()
	if got, zero := endOf(told); got != want || !zero || !is {
		t.Fatalf("%s: Result is %.300v %v, and not %.300v", what, told, is, want)
	}
}

// ended holds that a routine is done with what it came to, however often it is asked, and whatever it is still answered.
func ended(t *testing.T, what string, x *View, want end) {
	t.Helper()
	for _, g := range []api.Got{{}, {Word: 7}, {Text: "x"}, {Text: "k"}, {Word: 1, Text: "y"}, {}, {Word: math.MaxUint64}} {
		if a, more := x.Act(); a != (api.Act{}) || more {
			t.Fatalf("%s: %+v %v behind the end", what, a, more)
		}
		said(t, what, x, want)
		x.Take(g)
	}
}

// nothing holds that a routine has no act and no result, whatever it is answered.
func nothing(t *testing.T, what string, x *View) {
	t.Helper()
	for _, g := range []api.Got{{}, {Word: 1}, {Word: math.MaxUint64, Text: "x"}, {}, {Word: 2}, {Text: "k"}, {Text: "y"}, {}, {}} {
		for range 2 {
			if a, more := x.Act(); a != (api.Act{}) || more {
				t.Fatalf("%s: %+v %v", what, a, more)
			}
			unsaid(t, what, x)
		}
		x.Take(g)
	}
}

// through goes through a routine, and holds that it does just these acts, and what it came to then.
func through(t *testing.T, what string, x *View, l []pace, want end) {
	t.Helper()
	for i, p := range l {
		going(t, what, i, x, p.act)
		x.Take(p.got)
	}
	ended(t, what, x, want)
}

// follows holds all of that of what is told.
func follows(t *testing.T, c api.Config, thread int, is tale) end {
	t.Helper()
	l, want := is.course(c, thread)
	through(t, fmt.Sprintf("%+v thread %d: %.300v", c, thread, is), New(c, thread), l, want)
	return want
}

// Heaps

// store is a heap, and what was laid there: of each key its versions, the oldest one first.
type store struct {
	config api.Config
	heap   *heap.Heap
	laid   map[string][]version
}

type version struct {
	block, epoch uint64
	has          bool
	text         string
}

// open is a heap whose first block is the control block of a config: its pins are free, its epoch is 0, its shelves are empty, and each other cell has a word.
func open(c api.Config) *store {
	h := heap.New()
	h.Make(3+c.Pins+c.Cap+2*c.Shelves, "")
	for i := range h.Size(1) {
		h.Store(1, i, uint64(1000+i))
	}
	for shelf := range c.Shelves {
		h.Store(1, keyCell(c, shelf), 0)
		h.Store(1, headCell(c, shelf), 0)
	}
	for pin := range c.Pins {
		h.Store(1, pinCell(pin), 0)
	}
	h.Store(1, 0, 0)
	return &store{c, h, map[string][]version{}}
}

// laying is what it takes to lay a version of a key, one thing behind the other: the version is made, the shelf's head stored, and the key put, if nobody has; nothing, if all shelves have other keys. Nobody else lays meanwhile.
func (s *store) laying(key string, epoch uint64, has bool, value string) []func() {
	var found find.Found
	v := version{epoch: epoch, has: has}
	if has {
		v.text = value
	}
	return []func(){
		func() {
			x := find.New(s.config, key)
			drive.Alone(s.heap, x, 1000)
			if found, _ = x.Result(); found.Kind == find.Taken {
				return
			}
			next, _ := s.heap.Load(1, headCell(s.config, found.Shelf))
			made := shelf.New(epoch, next, api.Change{Key: key, Has: has, Value: v.text})
			drive.Alone(s.heap, made, 10)
			v.block, _ = made.Result()
		},
		func() {
			if found.Kind != find.Taken {
				s.heap.Store(1, headCell(s.config, found.Shelf), v.block)
				s.laid[key] = append(s.laid[key], v)
			}
		},
		func() {
			if found.Kind == find.Free {
				s.heap.Store(1, keyCell(s.config, found.Shelf), s.heap.Make(0, key))
			}
		},
	}
}

// lay lays a version of a key, and puts the key, if nobody has; false, if all shelves have other keys.
func (s *store) lay(key string, epoch uint64, has bool, value string) bool {
	for _, do := range s.laying(key, epoch, has, value) {
		do()
	}
	return len(s.laid[key]) > 0
}

// fill lays versions of keys, round by round, at rising epochs, with values and without.
func (s *store) fill(keys []string, rounds int) {
	var epoch uint64
	for n := range rounds {
		for i, key := range keys {
			if (n+i)%3 == 0 {
				continue
			}
			if (n+i)%4 != 1 {
				epoch++
			}
			s.lay(key, epoch, (n+2*i)%5 != 0, fmt.Sprint(strings.Repeat("v", i%7), n))
		}
	}
}

// reach lets the epoch be this one, and epoch is the one that is now.
func (s *store) reach(epoch uint64) { s.heap.Store(1, 0, epoch) }
func (s *store) epoch() uint64      { return s.cell(0) }

// newest is the greatest epoch of all versions.
func (s *store) newest() uint64 {
	var most uint64
	for _, l := range s.laid {
		most = max(most, l[len(l)-1].epoch)
	}
	return most
}

// cell is the word of a cell of the control block.
func (s *store) cell(i int) uint64 {
	word, _ := s.heap.Copy().Load(1, i)
	return word
}

// state is each key's last version that is not newer than an epoch, if that has a value.
func (s *store) state(epoch uint64) map[string]string {
	m := map[string]string{}
	for key, l := range s.laid {
		for _, v := range l {
			if v.epoch > epoch {
				break
			}
			delete(m, key)
			if v.has {
				m[key] = v.text
			}
		}
	}
	return m
}

// acts is how many acts it takes to go over all shelves at an epoch: a load for each, and for each that has a key the key's text, the load of the newest version, two for each version that is passed, and what it takes to read the next one.
func (s *store) acts(epoch uint64) int {
	n := s.config.Shelves
	for _, l := range s.laid {
		n += 2
		for i := len(l) - 1; i >= 0; i-- {
			n += 2
			if l[i].epoch > epoch {
				continue
			}
			if l[i].has {
				n++
			}
			break
		}
	}
	return n
}

// taken lets those pins be taken by others whose digit is 1, and the others be free.
func (s *store) taken(which int) {
	for pin := range s.config.Pins {
		s.heap.Store(1, pinCell(pin), uint64(which>>pin&1*(pin+1)))
	}
}

// check reads all keys alone, and holds what it comes to, by how many acts of which kinds, and that the heap is as it was.
func (s *store) check(t *testing.T, thread int) end {
	t.Helper()
	what := fmt.Sprintf("%+v thread %d at %d", s.config, thread, s.epoch())
	want, acts := tooMany, s.config.Pins+1
	for i := range s.config.Pins {
		if s.cell(pinCell((thread%s.config.Pins+i)%s.config.Pins)) == 0 {
			want = end{pairs: written(rising(s.state(s.epoch()))), mark: i + 3}
			acts = i + 3 + s.acts(s.epoch()) + 1
			break
		}
	}
	was := look(s.heap)
	x := New(s.config, thread)
	n := 0
	for d := range drive.Steps(s.heap, x, 10000) {
		n++
		if kind := d.Act.Kind; kind != api.Load && kind != api.Store && kind != api.Swap && kind != api.Words {
			t.Fatalf("%s: %+v", what, d)
		}
	}
	if n != acts {
		t.Fatalf("%s: %d acts, and not %d", what, n, acts)
	}
	if now := look(s.heap); now != was {
		t.Fatalf("%s: the heap is %s, and was %s", what, now, was)
	}
	said(t, what, x, want)
	return want
}

// checkAll reads all keys at each epoch from 0 to one above the newest, and holds that these keys, and all others, have the values that reads of them tell, and that no fault is counted.
func (s *store) checkAll(t *testing.T, thread int, keys []string) {
	t.Helper()
	for epoch := range s.newest() + 2 {
		s.reach(epoch)
		s.check(t, thread)
		s.asReads(t, thread, keys)
	}
	if n := s.heap.Faults(); n != 0 {
		t.Fatal(n, "faults")
	}
}

// asReads holds that it tells of these keys, and of all that it tells, just what reads of them tell.
func (s *store) asReads(t *testing.T, thread int, keys []string) {
	t.Helper()
	x := New(s.config, thread)
	drive.Alone(s.heap, x, 10000)
	told, _ := x.Result()
	m := map[string]string{}
	for _, p := range told.Reply.Pairs {
		m[p.Key] = p.Value
	}
	for _, key := range append(slices.Collect(maps.Keys(m)), keys...) {
		one := read.New(s.config, thread, key)
		drive.Alone(s.heap, one, 1000)
		value, has := m[key]
		if is, _ := one.Result(); is.Reply.Took != has || is.Reply.Value != value || is.Reply.Code != told.Reply.Code {
			t.Fatalf("%+v at %d: a read of %q tells %+v, and not %q %v", s.config, s.epoch(), key, is, value, has)
		}
	}
}

// look is all that a heap tells, as a text; nothing changes by that.
func look(h *heap.Heap) string {
	k := h.Copy()
	var s strings.Builder
	fmt.Fprint(&s, k.Locked(), " ", k.Faults())
	for _, b := range k.Blocks() {
		text, _ := k.Words(b)
		fmt.Fprintf(&s, "; %d %q:", b, text)
		for i := range k.Size(b) {
			w, _ := k.Load(b, i)
			fmt.Fprint(&s, " ", w)
		}
	}
	fmt.Fprint(&s, "; next ", k.Make(0, ""))
	return s.String()
}

// While others go on

// chase is a view that is driven step by step on a store, while the epoch goes on.
type chase struct {
	store  *store
	view   *View
	acts   int
	pin    int    // the cell of the pin that was had; -1 ahead of that
	pinned uint64 // what was stored there last, less 1
	mark   int    // how many acts there were ahead of the first shelf's
}

func (s *store) chase(thread int) *chase {
	return &chase{store: s, view: New(s.config, thread), pin: -1}
}

// step does the view's next act, and holds that it is of a kind that it may be; false, if it is done.
func (x *chase) step(t *testing.T) bool {
	t.Helper()
	d, more := drive.Next(x.store.heap, x.view)
	if !more {
		return false
	}
	x.acts++
	switch d.Act.Kind {
	case api.Load:
		if x.mark == 0 && d.Act.Block == 1 && d.Act.Cell != 0 {
			x.mark = x.acts - 1
		}
	case api.Words:
	case api.Swap:
		if d.Got.Word == 0 {
			x.pin, x.pinned = d.Act.Cell, d.Act.New-1
		}
	case api.Store:
		if d.Act.Block != 1 || d.Act.Cell != x.pin {
			t.Fatalf("%+v", d.Act)
		}
		if d.Act.New != 0 {
			x.pinned = d.Act.New - 1
		}
	default:
		t.Fatalf("%+v", d.Act)
	}
	return true
}

// finish drives the view to its end, and holds that it tells the state at the epoch that it had pinned, and that its pin is free.
func (x *chase) finish(t *testing.T, what string) {
	t.Helper()
	for x.step(t) {
	}
	said(t, what, x.view, end{pairs: written(rising(x.store.state(x.pinned))), mark: x.mark})
	if x.store.cell(x.pin) != 0 || x.store.heap.Faults() != 0 || x.store.heap.Locked() {
		t.Fatalf("%s: %s", what, look(x.store.heap))
	}
}

// others is steps of somebody else's, which lay versions of these keys at the next epoch, and then let the epoch go on.
func (s *store) others(keys []string, round int) []func() {
	var epoch uint64
	var l []func()
	for i, key := range keys {
		var doing []func()
		for step := range 3 {
			l = append(l, func() {
				if step == 0 {
					epoch = s.epoch() + 1
					doing = s.laying(key, epoch, (round+i)%3 > 0, fmt.Sprint("later ", round))
				}
				doing[step]()
			})
		}
	}
	return append(l, func() { s.reach(s.epoch() + 1) })
}
