package heap

import (
	"fmt"
	"math"
	"math/big"
	"slices"
	"testing"

	"philtre/api"
)

// ledger is a heap as it is reckoned here: a line for each number that was given, in their order, whether its block is there or not.
type ledger struct {
	lines  []line
	taken  bool
	faults int
}

// line is a block, and whether it was dropped.
type line struct {
	words []uint64
	text  string
	gone  bool
}

func (k *ledger) copy() *ledger {
	own := &ledger{taken: k.taken, faults: k.faults}
	for _, l := range k.lines {
		own.lines = append(own.lines, line{slices.Clone(l.words), l.text, l.gone})
	}
	return own
}

// there is the numbers of the blocks that are there.
func (k *ledger) there() []uint64 {
	var l []uint64
	for i, x := range k.lines {
		if !x.gone {
			l = append(l, uint64(i)+1)
		}
	}
	return l
}

// line is the line of a block that is there; nil of all other numbers.
func (k *ledger) line(b uint64) *line {
	for i := range k.lines {
		if uint64(i)+1 == b && !k.lines[i].gone {
			return &k.lines[i]
		}
	}
	return nil
}

// wrong is what is wrong with a number (0, if nothing is), and with a cell too, if that is asked for.
func (k *ledger) wrong(b uint64, i int, cell bool) api.Code {
	n := big.NewInt(int64(len(k.lines)))
	switch {
	case b == 0 || new(big.Int).SetUint64(b).Cmp(n) > 0:
		return 16
	case k.lines[b-1].gone:
		return 17
	case cell && (i < 0 || i > len(k.lines[b-1].words)-1):
		return 18
	}
	return 0
}

// Kinds of calls that may change something.
const (
	makes = iota
	drops
	loads
	stores
	swaps
	bumps
	tells
	locks
	unlocks
	kinds
)

// ask is a call, and what it is handed.
type ask struct {
	kind   int
	b      uint64
	i      int // a cell; of Make, how many
	old, w uint64
	text   string
}

// told is what a call told.
type told struct {
	n    uint64
	text string
	code api.Code
	is   bool
}

// asked is what a heap tells to a call.
func asked(h *Heap, a ask) told {
	var x told
	switch a.kind {
	case makes:
		x.n = h.Make(a.i, a.text)
	case drops:
		x.code = h.Drop(a.b)
	case loads:
		x.n, x.code = h.Load(a.b, a.i)
	case stores:
		x.code = h.Store(a.b, a.i, a.w)
	case swaps:
		x.n, x.code = h.Swap(a.b, a.i, a.old, a.w)
	case bumps:
		x.n, x.code = h.Bump(a.b, a.i, a.w)
	case tells:
		x.text, x.code = h.Words(a.b)
	case locks:
		x.is = h.Lock()
	case unlocks:
		x.is = h.Unlock()
	}
	return x
}

// asked is what is to be told to a call.
func (k *ledger) asked(a ask) told {
	switch a.kind {
	case makes:
		if a.i < 0 || a.i > 256 {
			return told{}
		}
		k.lines = append(k.lines, line{words: make([]uint64, a.i), text: a.text})
		return told{n: uint64(len(k.lines))}
	case locks:
		was := k.taken
		k.taken = true
		return told{is: !was}
	case unlocks:
		was := k.taken
		k.taken = false
		if !was {
			k.faults++
		}
		return told{is: was}
	}
	if code := k.wrong(a.b, a.i, a.kind != drops && a.kind != tells); code != 0 {
		k.faults++
		return told{code: code}
	}
	return k.right(a)
}

// right is what is to be told to a call of a block, or a cell, that is there.
func (k *ledger) right(a ask) told {
	l := &k.lines[a.b-1]
	switch a.kind {
	case drops:
		l.gone = true
		return told{}
	case tells:
		return told{text: l.text}
	}
	was := l.words[a.i]
	switch a.kind {
	case stores:
		l.words[a.i] = a.w
		return told{}
	case swaps:
		if was == a.old {
			l.words[a.i] = a.w
		}
	case bumps:
		sum := new(big.Int).Add(new(big.Int).SetUint64(was), new(big.Int).SetUint64(a.w))
		l.words[a.i] = sum.And(sum, new(big.Int).SetUint64(math.MaxUint64)).Uint64()
	}
	return told{n: was}
}

func (a ask) String() string {
	name := []string{"Make", "Drop", "Load", "Store", "Swap", "Bump", "Words", "Lock", "Unlock"}[a.kind]
	return fmt.Sprintf("%s of block %d, cell %d, words %d and %d, a text of %d bytes", name, a.b, a.i, a.old, a.w, len(a.text))
}

// Calls

func makeOf(cells int, text string) ask     { return ask{kind: makes, i: cells, text: text} }
func drop(b uint64) ask                     { return ask{kind: drops, b: b} }
func load(b uint64, i int) ask              { return ask{kind: loads, b: b, i: i} }
func store(b uint64, i int, w uint64) ask   { return ask{kind: stores, b: b, i: i, w: w} }
func bump(b uint64, i int, by uint64) ask   { return ask{kind: bumps, b: b, i: i, w: by} }
func words(b uint64) ask                    { return ask{kind: tells, b: b} }
func swap(b uint64, i int, o, w uint64) ask { return ask{kind: swaps, b: b, i: i, old: o, w: w} }

var (
	lock   = ask{kind: locks}
	unlock = ask{kind: unlocks}
)

// ofOne is one call of each kind that is of a block's number.
func ofOne(b uint64, i int) []ask {
	return []ask{drop(b), load(b, i), store(b, i, 77), swap(b, i, 0, 78), swap(b, i, 5, 79), bump(b, i, 3), words(b)}
}

// both is a heap, and what it is reckoned to be.
type both struct {
	t *testing.T
	h *Heap
	k *ledger
}

// begin is a heap that New made, with blocks of so many cells; the text of each is its place.
func begin(t *testing.T, cells ...int) *both {
	t.Helper()
	x := &both{t, New(), &ledger{}}
	x.check()
	for i, n := range cells {
		x.ask(makeOf(n, fmt.Sprint("text ", i)))
	}
	return x
}

// ask does a call, and holds what is told, and all that may be asked then.
func (x *both) ask(a ask) told {
	x.t.Helper()
	got := x.quick(a)
	x.check()
	return got
}

// quick does a call, and holds what is told.
func (x *both) quick(a ask) told {
	x.t.Helper()
	got, want := asked(x.h, a), x.k.asked(a)
	if got != want {
		x.t.Fatalf("%v: %v, and not %v", a, got, want)
	}
	if n := x.h.Faults(); n != x.k.faults {
		x.t.Fatalf("%v: %d faults, and not %d", a, n, x.k.faults)
	}
	return got
}

// check holds all that may be asked without a fault, twice, as nothing changes by that.
func (x *both) check() {
	x.t.Helper()
	for range 2 {
		x.checkOnce()
	}
}

func (x *both) checkOnce() {
	x.t.Helper()
	there := x.h.Blocks()
	if !slices.Equal(there, x.k.there()) {
		x.t.Fatalf("there are %v, and not %v", there, x.k.there())
	}
	for _, b := range append(there, edgesOf(len(x.k.lines))...) {
		x.checkBlock(b)
	}
	if locked, faults := x.h.Locked(), x.h.Faults(); locked != x.k.taken || faults != x.k.faults {
		x.t.Fatalf("taken: %v, %d faults, and not %v, %d", locked, faults, x.k.taken, x.k.faults)
	}
	for i := range there {
		there[i] = 7
	}
}

// checkBlock holds a block's size, and, if it is there, its cells and its text.
func (x *both) checkBlock(b uint64) {
	x.t.Helper()
	l := x.k.line(b)
	if l == nil {
		if n := x.h.Size(b); n != 0 {
			x.t.Fatalf("%d, which is not there, has %d cells", b, n)
		}
		return
	}
	if n := x.h.Size(b); n != len(l.words) {
		x.t.Fatalf("%d has %d cells, and not %d", b, n, len(l.words))
	}
	for i, want := range l.words {
		if w, code := x.h.Load(b, i); w != want || code != 0 {
			x.t.Fatalf("%d has %d in %d (%d), and not %d", b, w, i, code, want)
		}
	}
	if text, code := x.h.Words(b); text != l.text || code != 0 {
		x.t.Fatalf("%d has the text %q (%d), and not %q", b, text, code, l.text)
	}
}

// drained asks for all else that a later call could tell: of each number that was given, or was not, whether it is there, which number comes next, and the lock.
func (x *both) drained() {
	x.t.Helper()
	for _, b := range edgesOf(len(x.k.lines)) {
		for _, i := range []int{-1, 0, 1, 2, 255, 256} {
			x.quick(load(b, i))
		}
		x.quick(words(b))
	}
	x.ask(makeOf(1, "next"))
	for _, a := range []ask{lock, lock, unlock, unlock} {
		x.ask(a)
	}
	for _, b := range edgesOf(len(x.k.lines)) {
		x.quick(drop(b))
		x.quick(drop(b))
	}
	x.ask(makeOf(2, "last"))
}

// copied is a copy, and what that is reckoned to be.
func (x *both) copied() *both {
	x.t.Helper()
	other := &both{x.t, x.h.Copy(), x.k.copy()}
	if other.h == nil || other.h == x.h {
		x.t.Fatal("no copy")
	}
	other.check()
	x.check()
	return other
}

// edgesOf is numbers that were given, up to most of them, and others: some could have been, if they were cut to fewer bytes.
func edgesOf(given int) []uint64 {
	l := []uint64{0}
	for b := range given {
		if b < 8 || b > given-8 {
			l = append(l, uint64(b)+1)
		}
	}
	n := uint64(given)
	return append(l, n+1, n+2, n+1000, 1<<31, 1<<32, 1<<32+1, 1<<32+n, 1<<62, 1<<63-1, 1<<63, 1<<63+1, math.MaxUint64-1, math.MaxUint64)
}
