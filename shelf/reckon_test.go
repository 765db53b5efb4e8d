package shelf

import (
	"fmt"
	"math"
	"math/rand"
	"strings"
	"testing"

	"philtre/api"
	"philtre/heap"
)

// What is handed in

var (
	epochs = []uint64{0, 1, 2, 3, 255, 256, 1<<31 - 1, 1 << 32, math.MaxInt64, 1 << 63, math.MaxUint64 - 1, math.MaxUint64}
	nexts  = []uint64{0, 1, 2, 3, 1 << 32, 1 << 63, math.MaxUint64 - 1, math.MaxUint64}
	blocks = []uint64{1, 2, 3, 256, 1 << 32, math.MaxInt64, 1 << 63, math.MaxUint64 - 1, math.MaxUint64}
	keys   = []string{"", "k", "\x00", "\xff\xfe", "sixteen bytes..k", strings.Repeat("key", 2000)}
)

// values are of none, one, many and the most bytes that a block's text may have by an act, with bytes of all kinds.
func values() []string {
	var every strings.Builder
	for b := range 256 {
		every.WriteByte(byte(b))
	}
	all := every.String()
	return []string{"", "v", "\x00", "\n", " ", "\xff", "é", "a value", "\x00\x00\x00", "\xed\xa0\x80", strings.Repeat("v", 32), all, strings.Repeat(all, 16), strings.Repeat("w", 4096)}
}

// changes are of all those keys and values, with a value and without one.
func changes() []api.Change {
	var l []api.Change
	for _, key := range keys {
		for _, value := range values() {
			l = append(l, api.Change{Key: key, Has: true, Value: value}, api.Change{Key: key, Value: value})
		}
	}
	return l
}

// anyWord is a word of any length.
func anyWord(r *rand.Rand) uint64 { return r.Uint64() >> r.Intn(65) }

func anyText(r *rand.Rand) string {
	b := make([]byte, r.Intn(40))
	r.Read(b)
	return string(b)
}

func anyChange(r *rand.Rand) api.Change {
	return api.Change{Key: anyText(r), Has: r.Intn(2) == 0, Value: anyText(r)}
}

func anyGot(r *rand.Rand) api.Got { return api.Got{Word: anyWord(r), Text: anyText(r)} }

// What it comes to, as it is reckoned here

// made is the first act.
func made(text string) api.Act { return api.Act{Kind: api.Make, Cell: 3, Text: text} }

// stored is an act that stores.
func stored(block uint64, cell int, word uint64) api.Act {
	return api.Act{Kind: api.Store, Block: block, Cell: cell, New: word}
}

// acts is all acts of a routine whose first one is answered a block.
func acts(epoch, next uint64, c api.Change, block uint64) []api.Act {
	var l []api.Act
	if c.Has {
		l = append(l, made(c.Value))
	} else {
		l = append(l, made(""))
	}
	if block == 0 {
		return l
	}
	l = append(l, stored(block, 0, epoch))
	if next > 0 {
		l = append(l, stored(block, 1, next))
	}
	if c.Has {
		l = append(l, stored(block, 2, 1))
	}
	return l
}

// What is checked

// going holds that a routine is ahead of an act, however often it is asked, and not done.
func going(t *testing.T, what string, x *Version, want api.Act) {
	t.Helper()
	for range 3 {
		if a, more := x.Act(); a != want || !more {
			t.Fatalf("%s: %+v %v, and not %+v", what, a, more, want)
		}
		if b, is := x.Result(); b != 0 || is {
			t.Fatalf("%s: Result is %d %v ahead of the end", what, b, is)
		}
	}
}

// ended holds that a routine is done with a block, however often it is asked, and whatever it is still answered.
func ended(t *testing.T, what string, x *Version, block uint64) {
	t.Helper()
	for _, g := range []api.Got{{}, {Word: 7}, {Text: "x"}, {Word: block + 1, Text: "y"}, {Word: math.MaxUint64}} {
		for range 2 {
			if a, more := x.Act(); a != (api.Act{}) || more {
				t.Fatalf("%s: %+v %v behind the end", what, a, more)
			}
			if b, is := x.Result(); b != block || !is {
				t.Fatalf("%s: Result is %d %v, and not %d", what, b, is, block)
			}
		}
		x.Take(g)
	}
}

// nothing holds that a routine has no act and no result, whatever it is answered.
func nothing(t *testing.T, what string, x *Version) {
	t.Helper()
	for _, g := range []api.Got{{}, {Word: 1}, {Word: math.MaxUint64, Text: "x"}, {}, {Word: 2}, {Word: 3}, {Text: "y"}} {
		for range 2 {
			if a, more := x.Act(); a != (api.Act{}) || more {
				t.Fatalf("%s: %+v %v", what, a, more)
			}
			if b, is := x.Result(); b != 0 || is {
				t.Fatalf("%s: Result is %d %v", what, b, is)
			}
		}
		x.Take(g)
	}
}

// through goes through a routine whose first act is answered first, and its others by answer.
func through(t *testing.T, what string, x *Version, want []api.Act, first api.Got, answer func() api.Got) {
	t.Helper()
	for i, a := range want {
		going(t, fmt.Sprint(what, ": act ", i), x, a)
		if i == 0 {
			x.Take(first)
		} else {
			x.Take(answer())
		}
	}
	ended(t, what, x, first.Word)
}

// Heaps

// grounds are heaps with no blocks, one, and many, some of which were dropped; with the lock free and taken, and with faults and without.
func grounds() []*heap.Heap {
	none, one, many, faulty := heap.New(), heap.New(), heap.New(), heap.New()
	one.Make(3, "one")
	one.Store(1, 0, 5)
	for i := range 20 {
		b := many.Make(i, fmt.Sprint("text ", i))
		for cell := range i {
			many.Store(b, cell, uint64(100*i+cell))
		}
	}
	many.Drop(4)
	many.Drop(20)
	faulty.Make(3, "")
	faulty.Drop(1)
	faulty.Load(1, 0)
	faulty.Load(9, 0)
	faulty.Unlock()
	faulty.Lock()
	return []*heap.Heap{none, one, many, faulty, {}}
}

// look is all that a heap tells, as a text, but for one block; nothing changes by that.
func look(h *heap.Heap, but uint64) string {
	c := h.Copy()
	s := fmt.Sprint(c.Locked(), " ", c.Faults())
	for _, b := range c.Blocks() {
		if b == but {
			continue
		}
		text, _ := c.Words(b)
		s += fmt.Sprintf("; %d %q:", b, text)
		for _, w := range cells(c, b) {
			s += fmt.Sprint(" ", w)
		}
	}
	return s
}

// cells is the words of a block.
func cells(h *heap.Heap, b uint64) []uint64 {
	c := h.Copy()
	var l []uint64
	for i := range c.Size(b) {
		w, _ := c.Load(b, i)
		l = append(l, w)
	}
	return l
}

// upcoming is the number of the next block that a heap would make.
func upcoming(h *heap.Heap) uint64 { return h.Copy().Make(0, "") }

// checkMade holds that a block is a version of a change: three cells and a text.
func checkMade(t *testing.T, h *heap.Heap, b, epoch, next uint64, c api.Change) {
	t.Helper()
	want, value := []uint64{epoch, next, 0}, ""
	if c.Has {
		want[2], value = 1, c.Value
	}
	if got := cells(h, b); fmt.Sprint(got) != fmt.Sprint(want) {
		t.Fatalf("epoch %d, next %d, %.80q: the cells are %d, and not %d", epoch, next, fmt.Sprint(c), got, want)
	}
	if text, code := h.Copy().Words(b); text != value || code != api.OK {
		t.Fatalf("epoch %d, next %d, %.80q: the text is %.80q", epoch, next, fmt.Sprint(c), text)
	}
}
