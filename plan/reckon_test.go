package plan

import (
	"fmt"
	"math"
	"math/big"
	"math/rand"
	"strings"
	"testing"

	"philtre/api"
	"philtre/batch"
	"philtre/model"
	"philtre/opcode"
)

// thing is what a cell is of, and which one.
type thing struct {
	name string
	n    int
}

// cells is what the cells of a config are of, one by one, as the chapter tells them.
func cells(c api.Config) []thing {
	l := []thing{{"epoch", 0}, {"queue", 0}, {"drained", 0}}
	for i := range c.Pins {
		l = append(l, thing{"pin", i})
	}
	for i := range c.Cap {
		l = append(l, thing{"ring", i})
	}
	for i := range c.Shelves {
		l = append(l, thing{"key", i}, thing{"head", i})
	}
	return l
}

// cellOf is the place at which a thing stands among the cells; -1, if it is not there.
func cellOf(l []thing, name string, n int) int {
	for i, x := range l {
		if x == (thing{name, n}) {
			return i
		}
	}
	return -1
}

// restOf is the rest of a ticket by a number above 0, reckoned with numbers without an end; -1 of a ticket below 0.
func restOf(ticket, by int) int {
	if ticket < 0 {
		return -1
	}
	return int(new(big.Int).Mod(big.NewInt(int64(ticket)), big.NewInt(int64(by))).Int64())
}

// ends are numbers at which a call that reckons with them might go wrong.
var ends = []int{math.MinInt, math.MinInt + 1, math.MinInt + 2, math.MinInt / 2, math.MinInt/2 - 1, math.MinInt/2 + 1, -1 << 32, -1<<32 + 1, -256, -64, -32, -8, -3, -2, -1,
	1 << 8, 1<<8 + 1, 1 << 16, 1<<16 + 1, 1<<31 - 1, 1 << 31, 1 << 32, 1<<32 + 1, 1<<32 + 5, 1 << 62, 1<<62 + 1, 1<<62 - 1, math.MaxInt / 2, math.MaxInt/2 - 1, math.MaxInt - 3, math.MaxInt - 2, math.MaxInt - 1, math.MaxInt}

// fields are the numbers of a config, and the least and the greatest that each may be.
var fields = []struct {
	name        string
	least, most int
	of          func(*api.Config) *int
}{
	{"Cap", 1, 32, func(c *api.Config) *int { return &c.Cap }},
	{"Pins", 1, 8, func(c *api.Config) *int { return &c.Pins }},
	{"Shelves", 1, 64, func(c *api.Config) *int { return &c.Shelves }},
	{"Queue", 0, 64, func(c *api.Config) *int { return &c.Queue }},
	{"Watchers", 0, 8, func(c *api.Config) *int { return &c.Watchers }},
}

var seeds = []uint64{0, 1, 7, 1 << 32, 1<<63 - 1, 1 << 63, math.MaxUint64 - 1, math.MaxUint64}

// Configs that may be: the least one, the greatest one, and others.
var (
	least    = api.Config{Cap: 1, Pins: 1, Shelves: 1}
	greatest = api.Config{Cap: 32, Pins: 8, Shelves: 64, Queue: 64, Watchers: 8, Seed: math.MaxUint64}
	some     = []api.Config{
		least, greatest,
		{Cap: 2, Pins: 1, Shelves: 1}, {Cap: 1, Pins: 2, Shelves: 1}, {Cap: 1, Pins: 1, Shelves: 2}, {Cap: 1, Pins: 1, Shelves: 1, Queue: 5, Watchers: 3, Seed: 9},
		{Cap: 3, Pins: 2, Shelves: 5, Queue: 7, Watchers: 2, Seed: 11}, {Cap: 5, Pins: 3, Shelves: 2, Queue: 1, Watchers: 1}, {Cap: 4, Pins: 4, Shelves: 4, Queue: 4, Watchers: 4, Seed: 4}, {Cap: 7, Pins: 5, Shelves: 64},
		{Cap: 32, Pins: 1, Shelves: 1}, {Cap: 1, Pins: 8, Shelves: 1}, {Cap: 1, Pins: 1, Shelves: 64}, {Cap: 31, Pins: 7, Shelves: 63, Queue: 63, Watchers: 7, Seed: 1 << 63}, {Cap: 16, Pins: 8, Shelves: 33, Watchers: 8},
	}
)

// wrong are configs that may not be: each field below its least and above its most, of each of a few configs that may be, and several fields at once.
func wrong() []api.Config {
	l := []api.Config{{}, {Seed: 5}, {Cap: -1, Pins: -1, Shelves: -1, Queue: -1, Watchers: -1}, {Cap: 33, Pins: 9, Shelves: 65, Queue: 65, Watchers: 9, Seed: math.MaxUint64},
		{Cap: math.MinInt, Pins: math.MinInt, Shelves: math.MinInt, Queue: math.MinInt, Watchers: math.MinInt}, {Cap: math.MaxInt, Pins: math.MaxInt, Shelves: math.MaxInt, Queue: math.MaxInt, Watchers: math.MaxInt},
		{Cap: 0, Pins: 1, Shelves: 65}, {Cap: 33, Pins: 0, Shelves: 1}, {Cap: 5, Pins: 9, Shelves: 9, Queue: 65}, {Cap: 5, Pins: 3, Shelves: 9, Queue: -1, Watchers: 9}}
	for _, c := range []api.Config{least, greatest, some[6]} {
		for _, f := range fields {
			for _, n := range beyond(f.least, f.most) {
				bad := c
				*f.of(&bad) = n
				l = append(l, bad)
			}
		}
	}
	return l
}

// beyond are numbers below least and above most, just there and far off.
func beyond(least, most int) []int {
	l := []int{least - 1, most + 1, least - 2, most + 2}
	for _, n := range ends {
		if n < least || n > most {
			l = append(l, n)
		}
	}
	return l
}

// anyConfig is one that may be.
func anyConfig(r *rand.Rand) api.Config {
	c := api.Config{Seed: r.Uint64()}
	for _, f := range fields {
		*f.of(&c) = f.least + r.Intn(f.most-f.least+1)
	}
	return c
}

// checkCells holds all that is told of a config's cells against the row of them.
func checkCells(t *testing.T, c api.Config) {
	t.Helper()
	l := cells(c)
	check := func(what string, arg, got, want int) {
		t.Helper()
		if got != want {
			t.Fatalf("%+v: %s of %d is %d, and not %d", c, what, arg, got, want)
		}
	}
	check("Size", 0, Size(c), len(l))
	of := map[thing]int{}
	for cell, x := range l {
		of[x] = cell
		checkWhere(t, c, cell, x)
	}
	for i := range c.Pins {
		check("Pin", i, Pin(c, i), of[thing{"pin", i}])
	}
	for ticket := range 2*c.Cap + 3 {
		check("Ring", ticket, Ring(c, ticket), of[thing{"ring", restOf(ticket, c.Cap)}])
	}
	for i := range c.Shelves {
		check("Key", i, Key(c, i), of[thing{"key", i}])
		check("Head", i, Head(c, i), of[thing{"head", i}])
	}
}

// checkNone holds that there is nothing behind a config's cells, and ahead of them.
func checkNone(t *testing.T, c api.Config) {
	t.Helper()
	check := func(what string, arg, got int) {
		t.Helper()
		if got != -1 {
			t.Fatalf("%+v: %s of %d is %d, and not -1", c, what, arg, got)
		}
	}
	for _, n := range beyond(0, c.Pins-1) {
		check("Pin", n, Pin(c, n))
	}
	for _, n := range beyond(0, c.Shelves-1) {
		check("Key", n, Key(c, n))
		check("Head", n, Head(c, n))
	}
	for _, n := range ends {
		if n < 0 {
			check("Ring", n, Ring(c, n))
		}
	}
	for _, n := range beyond(0, len(cells(c))-1) {
		checkWhere(t, c, n, thing{})
	}
}

func checkWhere(t *testing.T, c api.Config, cell int, want thing) {
	t.Helper()
	if name, n := Where(c, cell); (thing{name, n}) != want {
		t.Fatalf("%+v: cell %d is of %q %d, and not %q %d", c, cell, name, n, want.name, want.n)
	}
}

// looks is all that a model tells of itself, as a text.
func looks(m *model.Model) string {
	return fmt.Sprintf("state %v done %v waits %v issued %d watchers %v", m.State(), m.Done(), m.Waits(), m.Issued(), m.Watchers())
}

// put is the text of an operation that puts a value to the key of a number.
func put(n int) string {
	s, err := opcode.Print(putOf(n))
	if err != nil {
		panic(err)
	}
	return s
}

func putOf(n int) api.Op {
	return api.Op{Steps: []api.Step{{Kind: api.Put, Key: fmt.Sprint("k", n), Value: fmt.Sprint(n)}}}
}

// one is the text of a batch of one entry.
func one(origin, seq int) string {
	s, err := batch.Print([]api.Entry{{Id: api.Id{Origin: origin, Seq: seq}, Op: putOf(seq)}})
	if err != nil {
		panic(err)
	}
	return s
}

// worked is what a model answers to a row of calls of all kinds, more of them than there is room for, and what it tells of itself in between.
func worked(m *model.Model) string {
	var b strings.Builder
	do := func(c api.Call) {
		reply, changes := m.Do(c)
		fmt.Fprintf(&b, "%d: %v %v %s\n", c.Kind, reply, changes, looks(m))
	}
	for range 10 {
		do(api.Call{Kind: api.Watch, Text: "k"})
	}
	for n := range 40 {
		do(api.Call{Kind: api.Mutate, Text: put(n)})
	}
	do(api.Call{Kind: api.Rebase, Text: one(1, 1)})
	for seq := 1; seq <= 10; seq++ {
		do(api.Call{Kind: api.Rebase, Text: one(0, seq), Start: seq})
	}
	for n := range 40 {
		do(api.Call{Kind: api.Mutate, Text: put(100 + n)})
	}
	for range 70 {
		do(api.Call{Kind: api.Poll, Start: 1, N: 1})
	}
	for n := range 10 {
		do(api.Call{Kind: api.Poll, Start: 99, N: n})
	}
	do(api.Call{Kind: api.Resync, N: 1})
	do(api.Call{Kind: api.Unwatch, N: 1})
	do(api.Call{Kind: api.Read, Text: "k1"})
	do(api.Call{Kind: api.Snapshot})
	do(api.Call{Kind: api.Collect})
	return b.String()
}
