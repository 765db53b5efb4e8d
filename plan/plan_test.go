package plan

import (
	"math"
	"math/rand"
	"reflect"
	"slices"
	"testing"

	"philtre/api"
	"philtre/model"
)

// P21.1: Right, Size, Open

func TestExample(t *testing.T) {
	c := api.Config{Cap: 2, Pins: 1, Shelves: 1}
	if !Right(c) || Size(c) != 8 || Key(c, 0) != 6 {
		t.Fatal(Right(c), Size(c), Key(c, 0))
	}
}

func TestRight(t *testing.T) {
	for _, c := range some {
		for _, c.Seed = range seeds {
			if !Right(c) {
				t.Errorf("%+v may not be", c)
			}
		}
	}
}

func TestRightOfWrong(t *testing.T) {
	for _, c := range wrong() {
		for _, c.Seed = range append(seeds, c.Seed) {
			if Right(c) {
				t.Errorf("%+v may be", c)
			}
		}
	}
}

// Each field alone, at its ends and all about them.
func TestRightByField(t *testing.T) {
	for _, c := range some {
		for _, f := range fields {
			for _, n := range append(slices.Clone(ends), -2, -1, 0, 1, 2, 3, 4, 7, 8, 9, 10, 31, 32, 33, 34, 63, 64, 65, 66, 255, 256, 257) {
				other := c
				*f.of(&other) = n
				if want := n >= f.least && n <= f.most; Right(other) != want {
					t.Errorf("%s of %d: %v", f.name, n, !want)
				}
			}
		}
	}
}

// All fields together, each at its ends, just beyond them, and far off.
func TestRightOfAll(t *testing.T) {
	var choices [5][]int
	for i, f := range fields {
		choices[i] = []int{math.MinInt, -1, f.least - 1, f.least, f.least + 1, f.most - 1, f.most, f.most + 1, math.MaxInt}
	}
	var try func(c api.Config, at int, may bool)
	try = func(c api.Config, at int, may bool) {
		if at == len(fields) {
			if Right(c) != may {
				t.Fatalf("%+v: %v", c, !may)
			}
			return
		}
		for _, n := range choices[at] {
			*fields[at].of(&c) = n
			try(c, at+1, may && n >= fields[at].least && n <= fields[at].most)
		}
	}
	try(api.Config{Seed: 5}, 0, true)
}

func TestSize(t *testing.T) {
	for _, x := range []struct {
		c    api.Config
		want int
	}{
		{least, 7}, {greatest, 171},
		{api.Config{Cap: 2, Pins: 1, Shelves: 1}, 8}, {api.Config{Cap: 1, Pins: 2, Shelves: 1}, 8}, {api.Config{Cap: 1, Pins: 1, Shelves: 2}, 9},
		{api.Config{Cap: 32, Pins: 1, Shelves: 1}, 38}, {api.Config{Cap: 1, Pins: 8, Shelves: 1}, 14}, {api.Config{Cap: 1, Pins: 1, Shelves: 64}, 133},
		{api.Config{Cap: 3, Pins: 2, Shelves: 5}, 18}, {api.Config{Cap: 31, Pins: 7, Shelves: 63}, 167},
	} {
		// Of no matter to it: Queue, Watchers and Seed.
		for _, x.c.Queue = range []int{0, 1, 63, 64} {
			for _, x.c.Watchers = range []int{0, 1, 7, 8} {
				for _, x.c.Seed = range seeds {
					if n := Size(x.c); n != x.want {
						t.Fatalf("%+v: %d, and not %d", x.c, n, x.want)
					}
				}
			}
		}
	}
}

// Of a config that may not be there is nothing, whatever else is handed in.
func TestWrong(t *testing.T) {
	var args []int
	args = append(args, ends...)
	for n := range 180 {
		args = append(args, n)
	}
	for _, c := range wrong() {
		if n := Size(c); n != 0 {
			t.Fatalf("%+v: Size is %d", c, n)
		}
		if o := Open(c); o != nil {
			t.Fatalf("%+v: an office", c)
		}
		for _, n := range args {
			if l := [4]int{Pin(c, n), Ring(c, n), Key(c, n), Head(c, n)}; l != [4]int{-1, -1, -1, -1} {
				t.Fatalf("%+v: of %d: %v", c, n, l)
			}
			checkWhere(t, c, n, thing{})
		}
	}
}

func TestOpen(t *testing.T) {
	r := rand.New(rand.NewSource(211))
	configs := slices.Clone(some)
	for range 20 {
		configs = append(configs, anyConfig(r))
	}
	for _, c := range configs {
		o := Open(c)
		if o == nil || o.Config != c || o.Next != 0 || len(o.Limbo) != 0 || o.Model == nil {
			t.Fatalf("%+v: %+v", c, o)
		}
		if now, want := looks(o.Model), "state [] done [] waits [] issued 0 watchers []"; now != want {
			t.Fatalf("%+v: the model is not new: %s", c, now)
		}
		if got, want := worked(o.Model), worked(model.New(c)); got != want {
			t.Fatalf("%+v: the model answers\n%s\nand not\n%s", c, got, want)
		}
		if o.Config != c || o.Next != 0 || len(o.Limbo) != 0 {
			t.Fatalf("%+v: %+v", c, o)
		}
	}
}

// The model has the config's own room: for what waits, for watchers, and in their boxes.
func TestOpenRoom(t *testing.T) {
	for _, c := range some {
		m := Open(c).Model
		for i := range c.Watchers {
			if reply, _ := m.Do(api.Call{Kind: api.Watch}); reply.N != i+1 || reply.Code != api.OK {
				t.Fatalf("%+v: watcher %d: %+v", c, i+1, reply)
			}
		}
		if reply, _ := m.Do(api.Call{Kind: api.Watch}); reply.Code != api.TooManyWatchers {
			t.Fatalf("%+v: one more watcher: %+v", c, reply)
		}
		for i := range c.Cap {
			if reply, _ := m.Do(api.Call{Kind: api.Mutate, Text: put(i)}); reply.Id != (api.Id{Seq: i + 1}) || reply.Code != api.OK {
				t.Fatalf("%+v: mutation %d: %+v", c, i+1, reply)
			}
		}
		if reply, _ := m.Do(api.Call{Kind: api.Mutate, Text: put(99)}); reply.Code != api.Full {
			t.Fatalf("%+v: one more mutation: %+v", c, reply)
		}
		for i := range c.Watchers {
			reply, _ := m.Do(api.Call{Kind: api.Poll, Start: 100, N: i + 1})
			if want := min(c.Cap, c.Queue); len(reply.Changes) != want || reply.Code != api.OK && want > 0 {
				t.Fatalf("%+v: watcher %d takes %+v", c, i+1, reply)
			}
		}
	}
}

// What is done to one office is of no matter to another one of the same config, whichever was opened first.
func TestOfficesApart(t *testing.T) {
	for _, c := range some {
		first, second := Open(c), Open(c)
		if first == second || first.Model == second.Model {
			t.Fatalf("%+v: shared", c)
		}
		fresh := worked(model.New(c))
		worked(first.Model)
		first.Next, first.Config.Cap = 3, 9
		first.Limbo = append(first.Limbo, 5, 6)
		for _, o := range []*Office{second, Open(c)} {
			if o == first || o.Config != c || o.Next != 0 || len(o.Limbo) != 0 || worked(o.Model) != fresh {
				t.Fatalf("%+v: %+v", c, o)
			}
		}
		if first.Next != 3 || first.Config.Cap != 9 || !slices.Equal(first.Limbo, []uint64{5, 6}) {
			t.Fatalf("%+v: %+v", c, first)
		}
	}
}

// The room behind two offices' Limbo is not one.
func TestLimboApart(t *testing.T) {
	first, second := Open(greatest), Open(greatest)
	for i := range 20 {
		first.Limbo = append(first.Limbo, uint64(i))
		second.Limbo = append(second.Limbo, uint64(100+i))
	}
	for i := range 20 {
		if first.Limbo[i] != uint64(i) || second.Limbo[i] != uint64(100+i) {
			t.Fatal(first.Limbo, second.Limbo)
		}
	}
}

// P21.2: the cells

func TestNumbers(t *testing.T) {
	var block uint64 = Control
	if l := [3]int{Epoch, Queue, Drained}; block != 1 || l != [3]int{0, 1, 2} {
		t.Fatal(block, l)
	}
}

// The numbers of a few cells, written out.
func TestCells(t *testing.T) {
	c := api.Config{Cap: 3, Pins: 2, Shelves: 4, Queue: 7, Watchers: 2, Seed: 11}
	tests := []struct {
		name    string
		of      func(api.Config, int) int
		n, want int
	}{
		{"pin", Pin, 0, 3}, {"pin", Pin, 1, 4}, {"pin", Pin, 2, -1}, {"pin", Pin, 3, -1}, {"pin", Pin, -1, -1},
		{"ring", Ring, 0, 5}, {"ring", Ring, 1, 6}, {"ring", Ring, 2, 7}, {"ring", Ring, 3, 5}, {"ring", Ring, 5, 7}, {"ring", Ring, 6, 5}, {"ring", Ring, 7, 6}, {"ring", Ring, 300, 5}, {"ring", Ring, 301, 6}, {"ring", Ring, 1<<40 - 1, 5}, {"ring", Ring, -1, -1}, {"ring", Ring, -3, -1},
		{"key", Key, 0, 8}, {"key", Key, 1, 10}, {"key", Key, 3, 14}, {"key", Key, 4, -1}, {"key", Key, 8, -1}, {"key", Key, -1, -1},
		{"head", Head, 0, 9}, {"head", Head, 1, 11}, {"head", Head, 3, 15}, {"head", Head, 4, -1}, {"head", Head, 8, -1}, {"head", Head, -1, -1},
	}
	for _, x := range tests {
		if got := x.of(c, x.n); got != x.want {
			t.Errorf("%s of %d: %d, and not %d", x.name, x.n, got, x.want)
		}
	}
	want := []thing{{"epoch", 0}, {"queue", 0}, {"drained", 0}, {"pin", 0}, {"pin", 1}, {"ring", 0}, {"ring", 1}, {"ring", 2}, {"key", 0}, {"head", 0}, {"key", 1}, {"head", 1}, {"key", 2}, {"head", 2}, {"key", 3}, {"head", 3}, {}, {}}
	for cell, x := range want {
		checkWhere(t, c, cell, x)
	}
}

// Tickets of the ring: its first and last ones, far ones, and none.
func TestRing(t *testing.T) {
	tickets := append([]int{0, 1, 2, 31, 32, 33, 63, 64, 65, 1<<40 - 2, 1<<40 - 1}, ends...)
	for room := 1; room <= 32; room++ {
		c := api.Config{Cap: room, Pins: 1 + room%8, Shelves: 1 + room, Seed: 5}
		l := cells(c)
		for _, ticket := range append([]int{room - 1, room, room + 1, 2*room - 1, 2 * room, 2*room + 1, 1000*room - 1, 1000 * room, math.MaxInt - room, math.MaxInt - math.MaxInt%room}, tickets...) {
			if got, want := Ring(c, ticket), cellOf(l, "ring", restOf(ticket, room)); got != want {
				t.Errorf("Cap %d, ticket %d: %d, and not %d", room, ticket, got, want)
			}
		}
	}
}

// With a ring of one cell each ticket has it.
func TestRingOfOne(t *testing.T) {
	for _, ticket := range []int{0, 1, 2, 3, 1000, 1<<32 + 7, math.MaxInt - 1, math.MaxInt} {
		if cell := Ring(least, ticket); cell != 4 {
			t.Errorf("ticket %d: %d", ticket, cell)
		}
	}
}

// Twice such a shelf, by sums that wrap round, might be a shelf that is there.
func TestShelvesThatWrap(t *testing.T) {
	for _, c := range some {
		for i := range 65 {
			for _, shelf := range []int{math.MinInt + i, math.MinInt/2 + i, 1<<62 + i, math.MinInt/2 - i - 1, math.MaxInt - i, 1<<32 + i, 1<<31 + i, -1<<31 + i, -1<<32 + i, 256 + i, 128 + i} {
				if key, head := Key(c, shelf), Head(c, shelf); key != -1 || head != -1 {
					t.Fatalf("%+v: shelf %d: %d, %d", c, shelf, key, head)
				}
			}
		}
	}
}

func TestNone(t *testing.T) {
	for _, c := range some {
		checkNone(t, c)
	}
}

// Each cell behind the last one up to a good way off, and as many ahead of the first one.
func TestWhereBeyond(t *testing.T) {
	for _, c := range some {
		for i := range 1000 {
			checkWhere(t, c, len(cells(c))+i, thing{})
			checkWhere(t, c, -1-i, thing{})
			checkWhere(t, c, math.MaxInt-i, thing{})
			checkWhere(t, c, math.MinInt+i, thing{})
		}
	}
}

// All there may be of Cap, Pins and Shelves, with any of the rest, which is of no matter.
func TestCellsOfAll(t *testing.T) {
	r := rand.New(rand.NewSource(212))
	for room := 1; room <= 32; room++ {
		for pins := 1; pins <= 8; pins++ {
			for shelves := 1; shelves <= 64; shelves++ {
				c := anyConfig(r)
				c.Cap, c.Pins, c.Shelves = room, pins, shelves
				checkCells(t, c)
			}
		}
	}
}

func TestCellsOfAny(t *testing.T) {
	r := rand.New(rand.NewSource(213))
	for range 500 {
		c := anyConfig(r)
		checkCells(t, c)
		checkNone(t, c)
		l := cells(c)
		for range 50 {
			ticket, n := int(r.Uint64()>>1)>>r.Intn(63), int(r.Uint64())>>r.Intn(64)
			if got, want := Ring(c, ticket), cellOf(l, "ring", restOf(ticket, c.Cap)); got != want {
				t.Fatalf("%+v: ticket %d: %d, and not %d", c, ticket, got, want)
			}
			got := [3]int{Pin(c, n), Key(c, n), Head(c, n)}
			if want := [3]int{cellOf(l, "pin", n), cellOf(l, "key", n), cellOf(l, "head", n)}; got != want {
				t.Fatalf("%+v: of %d: %v, and not %v", c, n, got, want)
			}
		}
	}
}

// Queue, Watchers and Seed are of no matter to the cells.
func TestCellsWithoutTheRest(t *testing.T) {
	told := func(c api.Config) []any {
		var l []any
		for n := -2; n < 180; n++ {
			name, which := Where(c, n)
			l = append(l, Pin(c, n), Ring(c, n), Key(c, n), Head(c, n), name, which)
		}
		return l
	}
	r := rand.New(rand.NewSource(214))
	for _, c := range some {
		want := told(c)
		for range 10 {
			other := anyConfig(r)
			other.Cap, other.Pins, other.Shelves = c.Cap, c.Pins, c.Shelves
			if got := told(other); !reflect.DeepEqual(got, want) {
				t.Fatalf("%+v and %+v: %v and %v", c, other, want, got)
			}
		}
	}
}

// What is told of a thing's cell comes back by Where.
func TestBack(t *testing.T) {
	for _, c := range some {
		for i := range c.Pins {
			checkWhere(t, c, Pin(c, i), thing{"pin", i})
		}
		for ticket := range 3 * c.Cap {
			checkWhere(t, c, Ring(c, ticket), thing{"ring", ticket % c.Cap})
		}
		for i := range c.Shelves {
			checkWhere(t, c, Key(c, i), thing{"key", i})
			checkWhere(t, c, Head(c, i), thing{"head", i})
		}
		checkWhere(t, c, Epoch, thing{"epoch", 0})
		checkWhere(t, c, Queue, thing{"queue", 0})
		checkWhere(t, c, Drained, thing{"drained", 0})
	}
}

// P21.3: apart

// Each thing stands in a cell of its own, and there are no other cells.
func TestApart(t *testing.T) {
	r := rand.New(rand.NewSource(215))
	configs := slices.Clone(some)
	for range 2000 {
		configs = append(configs, anyConfig(r))
	}
	for _, c := range configs {
		got := []int{Epoch, Queue, Drained}
		for i := range c.Pins {
			got = append(got, Pin(c, i))
		}
		for ticket := range c.Cap {
			got = append(got, Ring(c, ticket))
		}
		for i := range c.Shelves {
			got = append(got, Key(c, i), Head(c, i))
		}
		slices.Sort(got)
		for i, cell := range got {
			if cell != i {
				t.Fatalf("%+v: %v", c, got)
			}
		}
		if len(got) != Size(c) {
			t.Fatalf("%+v: %d cells of %d", c, len(got), Size(c))
		}
	}
}

// No two cells are of the same thing, and of each thing there are as many as the config says.
func TestApartByWhere(t *testing.T) {
	r := rand.New(rand.NewSource(216))
	configs := slices.Clone(some)
	for range 2000 {
		configs = append(configs, anyConfig(r))
	}
	for _, c := range configs {
		seen, many := map[thing]bool{}, map[string]int{}
		for cell := range Size(c) {
			name, n := Where(c, cell)
			if seen[thing{name, n}] {
				t.Fatalf("%+v: %s %d twice", c, name, n)
			}
			seen[thing{name, n}] = true
			many[name]++
		}
		want := map[string]int{"epoch": 1, "queue": 1, "drained": 1, "pin": c.Pins, "ring": c.Cap, "key": c.Shelves, "head": c.Shelves}
		if !reflect.DeepEqual(many, want) {
			t.Fatalf("%+v: %v", c, many)
		}
	}
}

// Tickets have the same cell just where they are a multiple of Cap apart.
func TestTicketsApart(t *testing.T) {
	for _, c := range some {
		for a := range 2*c.Cap + 1 {
			for b := range 2*c.Cap + 1 {
				if same := Ring(c, a) == Ring(c, b); same != ((a-b)%c.Cap == 0) {
					t.Fatalf("%+v: tickets %d and %d: %v", c, a, b, same)
				}
			}
		}
	}
}
