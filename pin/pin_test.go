package pin

import (
	"fmt"
	"math"
	"math/rand"
	"slices"
	"strings"
	"testing"

	"philtre/act"
	"philtre/api"
	"philtre/drive"
	"philtre/heap"
)

// A pin is driven as any routine is.
var _ api.Routine = (*Pin)(nil)

// P25.1: the routine

// Where all is free: a load, a swap, a load.
func TestExample(t *testing.T) {
	h := control(small, 5)
	x := New(small, 0)
	var kinds []int
	for s := range drive.Steps(h, x, 10) {
		kinds = append(kinds, s.Act.Kind)
	}
	if !slices.Equal(kinds, []int{api.Load, api.Swap, api.Load}) {
		t.Fatal(kinds)
	}
	if p, is := x.Result(); p != (Pinned{Pin: 0, Epoch: 5}) || !is {
		t.Fatal(p, is)
	}
	for _, c := range configs {
		for _, thread := range threads {
			x := New(c, thread)
			if n, is := drive.Alone(control(c, 9), x, 10); n != 3 || !is {
				t.Fatal(c, thread, n, is)
			}
			if p, is := x.Result(); p != (Pinned{thread % c.Pins, 9, false}) || !is {
				t.Fatal(c, thread, p, is)
			}
		}
	}
}

func TestFields(t *testing.T) {
	if p := (Pinned{2, 5, true}); p.Pin != 2 || p.Epoch != 5 || !p.Taken {
		t.Fatal(p)
	}
}

// By numbers that are written out: of three pins, which stand in 3, 4 and 5, the thread 4 begins at the second one.
func TestActsWrittenOut(t *testing.T) {
	load := func(word uint64) pace { return pace{api.Act{Kind: 1, Block: 1, Cell: 0}, api.Got{Word: word}} }
	second := func(word uint64) pace {
		return pace{api.Act{Kind: 3, Block: 1, Cell: 4, Old: 0, New: 8}, api.Got{Word: word}}
	}
	third := func(word uint64) pace {
		return pace{api.Act{Kind: 3, Block: 1, Cell: 5, Old: 0, New: 8}, api.Got{Word: word}}
	}
	first := func(word uint64) pace {
		return pace{api.Act{Kind: 3, Block: 1, Cell: 3, Old: 0, New: 8}, api.Got{Word: word}}
	}
	store := func(cell int, word uint64) pace {
		return pace{act: api.Act{Kind: 2, Block: 1, Cell: cell, New: word}}
	}
	for _, x := range []struct {
		what string
		l    []pace
		want Pinned
	}{
		{"at once", []pace{load(7), second(0), load(7)}, Pinned{Pin: 1, Epoch: 7}},
		{"the next one", []pace{load(7), second(1), third(0), load(7)}, Pinned{Pin: 2, Epoch: 7}},
		{"going round", []pace{load(7), second(1), third(8), first(0), load(7)}, Pinned{Pin: 0, Epoch: 7}},
		{"taken", []pace{load(7), second(1), third(8), first(9)}, Pinned{Taken: true}},
		{"another epoch", []pace{load(7), second(0), load(8), store(4, 9), load(8)}, Pinned{Pin: 1, Epoch: 8}},
		{"another one behind others", []pace{load(7), second(5), third(0), load(8), store(5, 9), load(8)}, Pinned{Pin: 2, Epoch: 8}},
		{"twice", []pace{load(7), second(0), load(8), store(4, 9), load(11), store(4, 12), load(11)}, Pinned{Pin: 1, Epoch: 11}},
		{"a smaller one", []pace{load(7), second(0), load(6), store(4, 7), load(6)}, Pinned{Pin: 1, Epoch: 6}},
		{"there and back", []pace{load(7), second(0), load(8), store(4, 9), load(7), store(4, 8), load(7)}, Pinned{Pin: 1, Epoch: 7}},
		{"the greatest one", []pace{load(7), second(0), load(math.MaxUint64), store(4, 0), load(math.MaxUint64)}, Pinned{Pin: 1, Epoch: math.MaxUint64}},
	} {
		through(t, x.what, New(small, 4), x.l, x.want)
	}
}

// Of each config, thread and epoch: the swap that is answered 0 is the first one, another, the last one, or none.
func TestActs(t *testing.T) {
	for _, c := range configs {
		for _, thread := range threads {
			for _, epoch := range epochs {
				for n := range c.Pins + 1 {
					for _, word := range []uint64{1, 2, epoch + 1, epoch, epoch + 2, math.MaxUint64} {
						// A 0 of these is a pin that was free.
						if word != 0 {
							follows(t, c, thread, epoch, all(n, word), nil)
						}
					}
				}
			}
		}
	}
}

// All ways in which pins may be taken, from each thread on, for each count of pins.
func TestActsOfAllPins(t *testing.T) {
	for pins := 1; pins <= 8; pins++ {
		c := api.Config{Cap: 3, Pins: pins, Shelves: 2}
		for thread := range 3 * pins {
			for taken := range 1 << pins {
				var swaps []uint64
				for i := range pins {
					swaps = append(swaps, uint64(taken>>i&1*(i+2)))
				}
				follows(t, c, thread, 4, swaps, nil)
			}
		}
	}
}

// The epoch that is loaded again: all rows of at most three of these.
func TestActsAgain(t *testing.T) {
	for _, c := range []api.Config{least, small, greatest} {
		for _, swaps := range [][]uint64{nil, {1}, {1, 6}} {
			if len(swaps) >= c.Pins {
				continue
			}
			for _, first := range epochs {
				for _, second := range append(epochs, first+1, first-1, first+2) {
					follows(t, c, 1, first, swaps, []uint64{second})
					for _, third := range []uint64{first, first + 1, second, second + 1, second - 1, 0, 7, math.MaxUint64} {
						follows(t, c, 1, first, swaps, []uint64{second, third})
						for _, fourth := range []uint64{first, second, third, third + 1, 0, math.MaxUint64} {
							follows(t, c, 1, first, swaps, []uint64{second, third, fourth})
						}
					}
				}
			}
		}
	}
}

// However often the epoch goes on, it is gone after.
func TestActsAgainManyTimes(t *testing.T) {
	for _, step := range []uint64{1, 2, 3, math.MaxUint64, 1 << 32, 1 << 63} {
		for _, first := range epochs {
			var again []uint64
			for i := range uint64(300) {
				again = append(again, first+(i+1)*step)
			}
			follows(t, small, 2, first, []uint64{5}, again)
		}
	}
}

// A text beside any word, and what is answered to a store, are of no matter.
func TestAnswersOfNoMatter(t *testing.T) {
	texts := []string{"", "k", "0", "\x00", strings.Repeat("t", 5000)}
	words := []uint64{0, 1, 2, 7, 8, 9, math.MaxUint64}
	for _, c := range []api.Config{least, small, greatest} {
		for _, swaps := range [][]uint64{nil, {1}, {8, 7}, all(c.Pins, 3)} {
			for _, again := range [][]uint64{nil, {8}, {8, 9}, {8, 7}, {6}} {
				l, want := course(c, 1, 7, swaps, again)
				for _, text := range texts {
					for _, word := range words {
						for i := range l {
							l[i].got.Text = text
							if l[i].act.Kind == api.Store {
								l[i].got.Word = word
							}
						}
						through(t, fmt.Sprintf("%+v %d %d: %.20q %d", c, swaps, again, text, word), New(c, 1), l, want)
					}
				}
			}
		}
	}
}

// Ahead of the end, and behind it.
func TestResult(t *testing.T) {
	x := New(small, 0)
	for i, word := range []uint64{5, 1, 2, 0, 6, 9, 6} {
		if p, is := x.Result(); p != (Pinned{}) || is {
			t.Fatal(i, p, is)
		}
		x.Take(api.Got{Word: word})
	}
	for range 5 {
		if p, is := x.Result(); p != (Pinned{Pin: 2, Epoch: 6}) || !is {
			t.Fatal(p, is)
		}
	}
	x = New(small, 0)
	for i := range 4 {
		if p, is := x.Result(); p != (Pinned{}) || is {
			t.Fatal(i, p, is)
		}
		x.Take(api.Got{Word: 5})
	}
	for range 5 {
		if p, is := x.Result(); p != (Pinned{Taken: true}) || !is {
			t.Fatal(p, is)
		}
	}
}

// Asked never, asked often: what it is asked for is of no matter.
func TestAskedNever(t *testing.T) {
	for _, swaps := range [][]uint64{nil, {1}, {8, 7}, all(3, 3)} {
		for _, again := range [][]uint64{nil, {8}, {8, 9}} {
			l, want := course(small, 1, 7, swaps, again)
			for at := range len(l) + 1 {
				x := New(small, 1)
				for _, p := range l[:at] {
					x.Take(p.got)
				}
				if at < len(l) {
					going(t, fmt.Sprint(swaps, again, at), x, l[at].act)
				} else {
					ended(t, fmt.Sprint(swaps, again, at), x, want)
				}
			}
		}
	}
}

// Pins alone are of matter; the others are of none.
func TestConfigs(t *testing.T) {
	for pins := 1; pins <= 8; pins++ {
		for _, rest := range []api.Config{{}, {Queue: 64, Watchers: 8}, {Queue: 1, Watchers: 1, Seed: math.MaxUint64}} {
			for _, cap := range []int{1, 2, 31, 32} {
				for _, shelves := range []int{1, 2, 63, 64} {
					c := api.Config{Cap: cap, Pins: pins, Shelves: shelves, Queue: rest.Queue, Watchers: rest.Watchers, Seed: rest.Seed}
					for n := range pins + 1 {
						follows(t, c, 11, 7, all(n, 4), []uint64{8})
					}
				}
			}
		}
	}
}

func TestNil(t *testing.T) {
	nothing(t, "nil", nil)
	if n, is := drive.Alone(heap.New(), (*Pin)(nil), 10); n != 0 || !is {
		t.Fatal(n, is)
	}
}

// One that New did not make has nothing to do, and never will.
func TestPlain(t *testing.T) {
	var plain Pin
	nothing(t, "var", &plain)
	nothing(t, "literal", &Pin{})
	nothing(t, "new", new(Pin))
	row := make([]Pin, 3)
	for i := range row {
		nothing(t, "of a row", &row[i])
	}
	idle(t, "plain", &Pin{})
}

// idle holds that a routine does nothing on a heap.
func idle(t *testing.T, what string, x *Pin) {
	t.Helper()
	h := control(small, 3)
	was := look(h)
	if n, is := drive.Alone(h, x, 10); n != 0 || !is || look(h) != was {
		t.Fatal(what, n, is, look(h))
	}
}

// Of a thread below 0 nothing is done.
func TestThreadsThatAreNone(t *testing.T) {
	for _, c := range configs {
		for _, thread := range []int{-1, -2, -c.Pins, -c.Pins - 1, -8, -64, -1 << 31, -1 << 32, math.MinInt + 1, math.MinInt} {
			nothing(t, fmt.Sprint(c, thread), New(c, thread))
			idle(t, fmt.Sprint(c, thread), New(c, thread))
		}
	}
}

// beyond is all configs that one number beyond its ends makes of this one.
func beyond(from api.Config) []api.Config {
	var l []api.Config
	for _, f := range fields {
		for _, n := range []int{math.MinInt, math.MinInt32, -1 << 32, -64, -2, -1, f.least - 1, f.most + 1, f.most + 2, 2*f.most + 1, 256, 1 << 16, 1 << 32, 1<<32 + 1, math.MaxInt - 1, math.MaxInt} {
			if n < f.least || n > f.most {
				c := from
				*f.of(&c) = n
				l = append(l, c)
			}
		}
	}
	return l
}

// Of a config that may not be, one number of which is beyond its ends, nothing is done; of one at the ends something is.
func TestConfigsThatMayNotBe(t *testing.T) {
	for _, from := range append([]api.Config{{Cap: 16, Pins: 4, Shelves: 32, Queue: 32, Watchers: 4, Seed: 9}}, configs...) {
		for _, c := range beyond(from) {
			for _, thread := range []int{0, 1, 5, math.MaxInt, -1} {
				nothing(t, fmt.Sprintf("%+v", c), New(c, thread))
				idle(t, fmt.Sprintf("%+v", c), New(c, thread))
			}
		}
		for _, f := range fields {
			for _, n := range []int{f.least, f.least + 1, f.most - 1, f.most} {
				c := from
				*f.of(&c) = n
				follows(t, c, 5, 7, []uint64{1}, []uint64{8})
			}
		}
	}
	nothing(t, "zero", New(api.Config{}, 0))
	nothing(t, "all beyond", New(api.Config{Cap: 33, Pins: 9, Shelves: 65, Queue: 65, Watchers: 9}, 0))
}

// Two routines share nothing, in whatever order they go on, of the same things or of others.
func TestApart(t *testing.T) {
	for _, second := range []struct {
		c      api.Config
		thread int
	}{{small, 1}, {small, 2}, {least, 0}, {greatest, 5}} {
		for order := range 1 << 12 {
			la, wa := course(small, 1, 7, []uint64{4, 5}, []uint64{8})
			lb, wb := course(second.c, second.thread, 9, []uint64{6}, []uint64{10, 11})
			xs := [2]*Pin{New(small, 1), New(second.c, second.thread)}
			ls, wants := [2][]pace{la, lb}, [2]Pinned{wa, wb}
			var at [2]int
			for pick := range 12 {
				if who := order >> pick & 1; at[who] < len(ls[who]) {
					xs[who].Take(ls[who][at[who]].got)
					at[who]++
				}
				for i, x := range xs {
					if at[i] < len(ls[i]) {
						going(t, fmt.Sprint(order, pick, i), x, ls[i][at[i]].act)
					} else if p, is := x.Result(); p != wants[i] || !is {
						t.Fatal(order, pick, i, p, is)
					}
				}
			}
		}
	}
}

// What is done with a config once it was handed in is of no matter.
func TestConfigApart(t *testing.T) {
	c := small
	x := New(c, 1)
	l, want := course(c, 1, 7, []uint64{1, 2}, []uint64{9})
	c = greatest
	through(t, "a config that was turned", x, l, want)
	if c != greatest {
		t.Fatal(c)
	}
}

// Each act may be, and needs no waiting for.
func TestActsMayBe(t *testing.T) {
	for _, c := range configs {
		for _, thread := range threads {
			for _, epoch := range epochs {
				l, _ := course(c, thread, epoch, []uint64{1}, []uint64{epoch + 1, epoch + 2})
				x := New(c, thread)
				for _, p := range l {
					a, more := x.Act()
					if !more || !act.Right(a) || !act.Ready(heap.New(), a) || act.Text(a) == "" || act.Looks(a) != (a.Kind == api.Load) {
						t.Fatalf("%+v", a)
					}
					x.Take(p.got)
				}
			}
		}
	}
}

func TestActsOfAny(t *testing.T) {
	r := rand.New(rand.NewSource(251))
	for range 50000 {
		c, thread, epoch := anyConfig(r), int(anyWord(r)>>1), anyWord(r)
		var swaps, again []uint64
		for range r.Intn(c.Pins + 1) {
			swaps = append(swaps, anyWord(r)|1<<r.Intn(64))
		}
		for range r.Intn(5) {
			if again = append(again, anyWord(r)); r.Intn(3) == 0 {
				again[len(again)-1] = epoch
			}
		}
		l, want := course(c, thread, epoch, swaps, again)
		for i := range l {
			if l[i].got.Text = anyText(r, 3); l[i].act.Kind == api.Store {
				l[i].got.Word = anyWord(r)
			}
		}
		through(t, fmt.Sprintf("%+v %d %d %d %d", c, thread, epoch, swaps, again), New(c, thread), l, want)
	}
}

// P25.2: Free

// Of each pin of a config there is the act that stores 0 into its cell, with no other field; of any other number there is none.
func TestFree(t *testing.T) {
	for _, c := range append(slices.Clone(configs), api.Config{Cap: 16, Pins: 3, Shelves: 32, Queue: 32, Watchers: 4, Seed: 9}) {
		for pin := range c.Pins {
			if a := Free(c, pin); a != (api.Act{Kind: 2, Block: 1, Cell: 3 + pin, Old: 0, New: 0, Text: ""}) || !act.Right(a) {
				t.Fatalf("%+v %d: %+v", c, pin, a)
			}
		}
		for _, pin := range []int{math.MinInt, math.MinInt + 1, -1 << 32, -1 << 31, -c.Pins, -2, -1, c.Pins, c.Pins + 1, 2 * c.Pins, 8, 9, 64, 1 << 31, 1 << 32, math.MaxInt - 3, math.MaxInt - 1, math.MaxInt} {
			if pin >= 0 && pin < c.Pins {
				continue
			}
			if a := Free(c, pin); a != (api.Act{}) {
				t.Fatalf("%+v %d: %+v", c, pin, a)
			}
		}
		for _, none := range beyond(c) {
			for _, pin := range []int{-1, 0, 1, 7, 8} {
				if a := Free(none, pin); a != (api.Act{}) {
					t.Fatalf("%+v %d: %+v", none, pin, a)
				}
			}
		}
	}
	if a := Free(api.Config{}, 0); a != (api.Act{}) {
		t.Fatalf("%+v", a)
	}
}

// It gives just that pin back.
func TestFreeDone(t *testing.T) {
	for _, c := range configs {
		for pin := range c.Pins {
			h := control(c, 5)
			for i := range c.Pins {
				h.Store(1, 3+i, uint64(6+i))
			}
			want := cells(h)
			want[3+pin] = 0
			one(h, Free(c, pin))
			if l := cells(h); !slices.Equal(l, want) || h.Faults() != 0 {
				t.Fatal(c, pin, l)
			}
		}
	}
}

// P25.3: holds

// Alone, with any of the pins taken ahead: the first free one that is tried, and no other cell has changed.
func TestHoldsAlone(t *testing.T) {
	for pins := 1; pins <= 8; pins++ {
		c := api.Config{Cap: 3, Pins: pins, Shelves: 2}
		for thread := range 2*pins + 1 {
			for taken := range 1 << pins {
				for _, epoch := range []uint64{0, 1, 77, math.MaxUint64 - 1} {
					alone(t, c, thread, taken, epoch)
				}
			}
		}
	}
}

// alone drives a routine where those pins are taken ahead whose digit is 1.
func alone(t *testing.T, c api.Config, thread, taken int, epoch uint64) {
	t.Helper()
	h := control(c, epoch)
	for i := range c.Pins {
		if taken>>i&1 == 1 {
			// One that pins the same epoch is taken as any other is.
			h.Store(1, 3+i, epoch+1-uint64(i%2)*min(epoch, 3))
		}
	}
	want, acts, is := cells(h), 1, Pinned{Taken: true}
	for i := range c.Pins {
		pin := (thread + i) % c.Pins
		acts++
		if taken>>pin&1 == 0 {
			want[3+pin] = epoch + 1
			is = Pinned{Pin: pin, Epoch: epoch}
			acts++
			break
		}
	}
	x := New(c, thread)
	n, done := drive.Alone(h, x, 100)
	if n != acts || !done {
		t.Fatal(c, thread, taken, epoch, n, done)
	}
	if p, _ := x.Result(); p != is {
		t.Fatal(c, thread, taken, epoch, p, is)
	}
	if l := cells(h); !slices.Equal(l, want) || h.Faults() != 0 || h.Locked() || len(h.Blocks()) != 1 {
		t.Fatal(c, thread, taken, epoch, l, want)
	}
}

// orders is ranged over: all rows of n numbers below most.
func orders(n, most int, do func([]int)) {
	l := make([]int, n)
	for {
		do(l)
		i := 0
		for i < n && l[i] == most-1 {
			l[i] = 0
			i++
		}
		if i == n {
			return
		}
		l[i]++
	}
}

// Two threads and the epoch, in all orders of nine steps: at one pin, at two, and at three.
func TestHoldsInAllOrdersOfTwo(t *testing.T) {
	for pins := 1; pins <= 3; pins++ {
		c := api.Config{Cap: 1, Pins: pins, Shelves: 1}
		for _, second := range []int{0, 1} {
			orders(9, 3, func(picks []int) {
				p := gather(c, 4, 0, second)
				for i, who := range picks {
					p.pick(t, who)
					if i > 3 {
						p.holds(t, fmt.Sprint(pins, second, picks[:i+1]))
					}
				}
				p.finish(t, fmt.Sprint(pins, second, picks))
			})
		}
	}
}

// Three threads and the epoch, in all orders of seven steps, at two pins.
func TestHoldsInAllOrdersOfThree(t *testing.T) {
	c := api.Config{Cap: 1, Pins: 2, Shelves: 1}
	orders(7, 4, func(picks []int) {
		p := gather(c, 0, 0, 1, 2)
		for _, who := range picks {
			p.pick(t, who)
		}
		p.holds(t, fmt.Sprint(picks))
		p.finish(t, fmt.Sprint(picks))
	})
}

// Any number of threads, fewer than pins, as many, and more, while the epoch goes on: at each time it holds, and at the end as many have a pin as there are.
func TestHoldsInAnyOrder(t *testing.T) {
	r := rand.New(rand.NewSource(252))
	for range 3000 {
		c := anyConfig(r)
		c.Cap, c.Shelves = 1+r.Intn(3), 1+r.Intn(3)
		threads := make([]int, 1+r.Intn(c.Pins+3))
		for i := range threads {
			threads[i] = r.Intn(3*c.Pins) * r.Intn(2)
		}
		p := gather(c, anyWord(r)>>1, threads...)
		calm := 1 + r.Intn(9)
		for i := range 60 {
			who := len(threads)
			if r.Intn(calm) > 0 {
				who = r.Intn(len(threads))
			}
			p.pick(t, who)
			p.holds(t, fmt.Sprint(c, threads, i))
		}
		p.finish(t, fmt.Sprint(c, threads))
	}
}

// Pins are given back and taken again, by the same threads and by others: at each time it holds, and who was told Taken saw each pin taken.
func TestHoldsAgain(t *testing.T) {
	r := rand.New(rand.NewSource(253))
	for range 1000 {
		c := api.Config{Cap: 1 + r.Intn(3), Pins: 1 + r.Intn(4), Shelves: 1}
		p := gather(c, anyWord(r)>>1, r.Perm(1+r.Intn(6))...)
		n, left := len(p.pins), 0
		for i := range 200 {
			who := r.Intn(n + 1)
			if who < n && r.Intn(4) == 0 && p.leave(who, r.Intn(9)) {
				left++
			} else {
				p.pick(t, who)
			}
			p.holds(t, fmt.Sprint(c, n, i))
		}
		if left == 0 && n == 1 {
			t.Fatal("nobody came and went")
		}
	}
}

// A pin that is given back can be taken by another thread, which was told Taken ahead of that.
func TestHoldsGivenBack(t *testing.T) {
	for pins := 1; pins <= 8; pins++ {
		c := api.Config{Cap: 1, Pins: pins, Shelves: 1}
		var threads []int
		for i := range pins {
			threads = append(threads, i)
		}
		for pin := range pins {
			p := gather(c, 6, threads...)
			p.finish(t, fmt.Sprint(pins))
			was := cells(p.heap)
			late := New(c, 3)
			if n, is := drive.Alone(p.heap, late, 100); n != pins+1 || !is {
				t.Fatal(pins, n, is)
			}
			if is, _ := late.Result(); is != (Pinned{Taken: true}) || !slices.Equal(cells(p.heap), was) {
				t.Fatal(pins, is)
			}
			one(p.heap, Free(c, pin))
			late = New(c, 3)
			drive.Alone(p.heap, late, 100)
			if is, _ := late.Result(); is != (Pinned{Pin: pin, Epoch: 6}) || !slices.Equal(cells(p.heap), was) {
				t.Fatal(pins, pin, is)
			}
		}
	}
}

// The epoch goes on between the swap and the load: the pin tells what the epoch was when it was looked at last, however often that happens.
func TestHoldsWhileTheEpochGoesOn(t *testing.T) {
	for times := range 20 {
		h := control(small, 3)
		x := New(small, 1)
		drive.Alone(h, x, 2)
		for i := range times {
			h.Bump(1, 0, 1)
			if n, is := drive.Alone(h, x, 2); n != 2 || is {
				t.Fatal(times, i, n, is)
			}
			if now := cell(h, 4); now != uint64(3+i+2) {
				t.Fatal(times, i, now)
			}
		}
		if n, is := drive.Alone(h, x, 2); n != 1 || !is {
			t.Fatal(times, n, is)
		}
		if p, _ := x.Result(); p != (Pinned{Pin: 1, Epoch: uint64(3 + times)}) || h.Faults() != 0 {
			t.Fatal(times, p)
		}
		// Behind the end it stays as it is.
		h.Bump(1, 0, 5)
		if p, _ := x.Result(); p != (Pinned{Pin: 1, Epoch: uint64(3 + times)}) || cell(h, 4) != uint64(4+times) {
			t.Fatal(times, p)
		}
	}
}

// The lock, and the other cells, are of no matter.
func TestHoldsBesideOthers(t *testing.T) {
	for _, c := range configs {
		for _, locked := range []bool{false, true} {
			h := control(c, 9)
			if locked {
				h.Lock()
			}
			b := h.Make(3, "text")
			want := cells(h)
			x := New(c, 13)
			if n, is := drive.Alone(h, x, 10); n != 3 || !is {
				t.Fatal(c, n, is)
			}
			want[3+13%c.Pins] = 10
			if !slices.Equal(cells(h), want) || h.Locked() != locked || h.Size(b) != 3 || h.Faults() != 0 {
				t.Fatal(c, cells(h), want)
			}
		}
	}
}

// No heap: each act is answered nothing, and so the first pin is free, and the epoch is 0.
func TestHoldsOnNoHeap(t *testing.T) {
	for _, c := range configs {
		x := New(c, 5)
		if n, is := drive.Alone(nil, x, 10); n != 3 || !is {
			t.Fatal(n, is)
		}
		ended(t, "no heap", x, Pinned{Pin: 5 % c.Pins})
	}
}
