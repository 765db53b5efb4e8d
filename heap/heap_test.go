package heap

import (
	"fmt"
	"math"
	"math/rand"
	"slices"
	"strings"
	"testing"
	"unsafe"

	"philtre/api"
)

// edgeWords are words at the ends, and some that could be taken for others if they were cut, or had a sign.
var edgeWords = []uint64{0, 1, 2, 255, 256, 1<<31 - 1, 1 << 31, 1<<32 - 1, 1 << 32, 1<<32 + 1, 1<<63 - 1, 1 << 63, 1<<63 + 1, math.MaxUint64 - 1, math.MaxUint64}

// wrongCells are never a block's.
var wrongCells = []int{math.MinInt, math.MinInt + 1, -1 << 32, -1<<32 + 1, -257, -256, -255, -2, -1, 256, 257, 258, 511, 512, 1<<16 + 1, 1 << 31, 1 << 32, 1<<32 + 1, 1<<62 + 1, math.MaxInt - 1, math.MaxInt}

// shortTexts are of any bytes.
var shortTexts = []string{"", "a", "-", " ", "\x00", "\n", "value", "häßlich", "日本", "\x80", "\xff\xfe", "\xf0\x9f", "a\x00b"}

// texts are the short ones, and some that are long.
func texts() []string {
	var all strings.Builder
	for b := range 256 {
		all.WriteByte(byte(b))
	}
	return append(slices.Clone(shortTexts), all.String(), strings.Repeat("x", 4096), strings.Repeat("y", 4097), strings.Repeat("ü\xc3", 1<<18))
}

func pick[T any](r *rand.Rand, l []T) T { return l[r.Intn(len(l))] }

// orders is all orders of the numbers from 1 to n.
func orders(n int) [][]uint64 {
	if n == 0 {
		return [][]uint64{nil}
	}
	var all [][]uint64
	for _, l := range orders(n - 1) {
		for i := range n {
			all = append(all, slices.Insert(slices.Clone(l), i, uint64(n)))
		}
	}
	return all
}

// P17.1

func TestExample(t *testing.T) {
	h := New()
	if b := h.Make(1, ""); b != 1 {
		t.Fatal(b)
	}
	if code := h.Drop(1); code != api.OK || h.Faults() != 0 {
		t.Fatal(code, h.Faults())
	}
	if w, code := h.Load(1, 0); w != 0 || code != api.Freed || h.Faults() != 1 {
		t.Fatal(w, code, h.Faults())
	}
	if w, code := h.Load(2, 0); w != 0 || code != api.None || h.Faults() != 2 {
		t.Fatal(w, code, h.Faults())
	}
	if h.Unlock() || h.Faults() != 3 {
		t.Fatal(h.Faults())
	}
}

func TestNew(t *testing.T) {
	h := New()
	if h == nil || h.Locked() || h.Faults() != 0 || len(h.Blocks()) != 0 || h.Size(0) != 0 || h.Size(1) != 0 {
		t.Fatal(h)
	}
	x := begin(t)
	x.drained()
}

func TestMake(t *testing.T) {
	for _, c := range []struct {
		cells int
		may   bool
	}{
		{0, true}, {1, true}, {2, true}, {3, true}, {127, true}, {128, true}, {254, true}, {255, true}, {256, true},
		{257, false}, {258, false}, {512, false}, {1 << 16, false}, {1<<16 + 1, false}, {1 << 31, false}, {1 << 32, false}, {1<<32 + 1, false}, {1 << 62, false}, {math.MaxInt - 1, false}, {math.MaxInt, false},
		{-1, false}, {-2, false}, {-255, false}, {-256, false}, {-257, false}, {-1 << 31, false}, {-1<<32 + 1, false}, {math.MinInt + 1, false}, {math.MinInt, false},
	} {
		for _, ahead := range [][]int{nil, {0}, {3, 1}} {
			x := begin(t, ahead...)
			want := uint64(len(ahead)) + 1
			if !c.may {
				want = 0
			}
			for range 2 {
				if got := x.ask(makeOf(c.cells, "text")); got.n != want || x.h.Faults() != 0 {
					t.Fatalf("%d behind %v: %d, %d faults", c.cells, ahead, got.n, x.h.Faults())
				}
				if c.may && x.h.Size(want) != c.cells {
					t.Fatalf("%d: %d cells", c.cells, x.h.Size(want))
				}
				if c.may {
					want++
				}
			}
			x.drained()
		}
	}
}

// A Make that is refused uses up no number, whatever was made or dropped ahead of it.
func TestRefusedMake(t *testing.T) {
	x := begin(t)
	for i := range 20 {
		for _, cells := range append([]int{-1, 257}, wrongCells...) {
			if cells != 256 && x.quick(makeOf(cells, "refused")).n != 0 {
				t.Fatal(cells)
			}
		}
		if got := x.ask(makeOf(i, "")); got.n != uint64(i)+1 {
			t.Fatalf("%d at %d", got.n, i)
		}
		if i%3 == 1 {
			x.ask(drop(uint64(i)))
		}
	}
	if x.h.Faults() != 0 {
		t.Fatal(x.h.Faults())
	}
}

func TestCellsAreNoughtsAtFirst(t *testing.T) {
	h := New()
	for round := range 3 {
		for _, cells := range []int{0, 1, 2, 255, 256} {
			b := h.Make(cells, "text")
			for i := range cells {
				if w, code := h.Load(b, i); w != 0 || code != 0 {
					t.Fatalf("%d of %d: %d, %d", i, cells, w, code)
				}
				h.Store(b, i, math.MaxUint64)
			}
			if round > 0 {
				h.Drop(b)
			}
		}
	}
}

// No number is given twice, whichever blocks were dropped meanwhile, in whatever order.
func TestNumbers(t *testing.T) {
	for _, order := range orders(5) {
		for kept := range 6 {
			x := begin(t, 1, 0, 2, 1, 3)
			for i, b := range order[kept:] {
				x.quick(drop(b))
				if got := x.quick(makeOf(i%3, "new")); got.n != uint64(6+i) {
					t.Fatalf("%v, %d stay: %d at %d", order, kept, got.n, i)
				}
			}
			x.check()
		}
	}
}

func TestNumbersBehindAll(t *testing.T) {
	x := begin(t)
	next := uint64(1)
	for round := range 30 {
		var l []uint64
		for range round % 12 {
			if got := x.quick(makeOf(1, "")); got.n != next {
				t.Fatalf("%d, and not %d", got.n, next)
			}
			l = append(l, next)
			next++
		}
		if round%2 == 0 {
			slices.Reverse(l)
		}
		for _, b := range l {
			x.quick(drop(b))
		}
		if len(x.h.Blocks()) != 0 {
			t.Fatal(x.h.Blocks())
		}
		x.check()
	}
	x.drained()
}

// The block that was made last is dropped each time.
func TestNumbersBehindTheLast(t *testing.T) {
	for _, stay := range []int{0, 1, 3} {
		x := begin(t, make([]int, stay)...)
		for i := range 50 {
			b := uint64(stay + i + 1)
			if got := x.quick(makeOf(i, "")); got.n != b {
				t.Fatalf("%d, and not %d", got.n, b)
			}
			x.ask(drop(b))
		}
		x.drained()
	}
}

func TestManyBlocks(t *testing.T) {
	r := rand.New(rand.NewSource(171))
	const n = 20000
	h := New()
	order := r.Perm(n)
	for b := uint64(1); b <= n; b++ {
		if got := h.Make(2, fmt.Sprint(b)); got != b {
			t.Fatal(got, b)
		}
		h.Store(b, 1, b*b)
	}
	for i, at := range order {
		b := uint64(at) + 1
		text, _ := h.Words(b)
		if w, code := h.Load(b, 1); w != b*b || code != 0 || text != fmt.Sprint(b) || h.Size(b) != 2 {
			t.Fatal(b, w, code, text)
		}
		if code := h.Drop(b); code != 0 || h.Size(b) != 0 {
			t.Fatal(b, code)
		}
		if _, code := h.Load(b, 1); code != 17 || h.Faults() != i+1 {
			t.Fatal(b, code, h.Faults())
		}
	}
	if len(h.Blocks()) != 0 || h.Make(0, "") != n+1 {
		t.Fatal(h.Blocks())
	}
}

func TestTexts(t *testing.T) {
	x := begin(t)
	for i, text := range texts() {
		if got := x.ask(makeOf(i%2, text)); got.n != uint64(i)+1 {
			t.Fatal(got)
		}
	}
	for i, text := range texts() {
		if got := x.ask(words(uint64(i) + 1)); got.text != text || got.code != 0 {
			t.Fatalf("%d: %q", i, got.text)
		}
	}
}

// What a block's text is does not turn with what is stored, and with what becomes of others.
func TestWordsStay(t *testing.T) {
	for _, text := range texts() {
		x := begin(t, 1)
		x.quick(makeOf(3, text))
		for _, a := range []ask{store(2, 0, 9), swap(2, 1, 0, math.MaxUint64), bump(2, 2, 1<<63), store(1, 0, 5), makeOf(3, "other"), drop(1), lock, unlock, unlock} {
			x.quick(a)
			if got := x.quick(words(2)); got.text != text {
				t.Fatalf("behind %v: %q", a, got.text)
			}
		}
		x.quick(drop(2))
		if got := x.quick(words(2)); got.text != "" || got.code != 17 {
			t.Fatal(got)
		}
	}
}

// blocksOf is a heap with blocks of no cells, of one, of 256 and of two, and two that were dropped: 4, and 6, the last one.
func blocksOf(t *testing.T) *both {
	t.Helper()
	x := begin(t, 0, 1, 256, 1, 2, 3)
	for _, a := range []ask{store(2, 0, 5), store(3, 0, 1), store(3, 255, math.MaxUint64), store(4, 0, 8), store(5, 1, 6), store(6, 2, 4), drop(4), drop(6)} {
		x.ask(a)
	}
	return x
}

// Each call of each number, at each cell.
func TestCodes(t *testing.T) {
	cells := append([]int{0, 1, 2, 254, 255}, wrongCells...)
	for _, b := range edgesOf(6) {
		x := blocksOf(t)
		for _, i := range cells {
			for _, a := range ofOne(b, i)[1:] {
				x.quick(a)
			}
		}
		x.check()
		x.quick(drop(b))
		for _, i := range cells {
			for _, a := range ofOne(b, i) {
				if got := x.quick(a); got.code == 0 || got.code == 18 || got.n != 0 || got.text != "" {
					t.Fatalf("%v: %v", a, got)
				}
			}
		}
		x.check()
		x.drained()
	}
}

// The same, by codes written out.
func TestCodesWrittenOut(t *testing.T) {
	for _, c := range []struct {
		b          uint64
		i          int
		cell, none api.Code
	}{
		{0, 0, 16, 16}, {0, -1, 16, 16}, {0, 256, 16, 16}, {7, 0, 16, 16}, {7, math.MaxInt, 16, 16}, {8, 0, 16, 16}, {1 << 32, 0, 16, 16}, {1<<32 + 2, 0, 16, 16}, {1<<63 + 2, 0, 16, 16}, {math.MaxUint64, 0, 16, 16}, {math.MaxUint64, math.MinInt, 16, 16}, {math.MaxUint64 - 1, 0, 16, 16},
		{4, 0, 17, 17}, {4, 1, 17, 17}, {4, -1, 17, 17}, {4, 256, 17, 17}, {4, math.MinInt, 17, 17}, {4, math.MaxInt, 17, 17}, {6, 0, 17, 17}, {6, 3, 17, 17},
		{1, 0, 18, 0}, {1, -1, 18, 0}, {1, 1, 18, 0}, {1, math.MaxInt, 18, 0}, {1, math.MinInt, 18, 0},
		{2, 0, 0, 0}, {2, -1, 18, 0}, {2, 1, 18, 0}, {2, 1 << 32, 18, 0}, {2, -1 << 32, 18, 0}, {2, math.MaxInt, 18, 0}, {2, math.MinInt, 18, 0},
		{3, 0, 0, 0}, {3, 1, 0, 0}, {3, 254, 0, 0}, {3, 255, 0, 0}, {3, 256, 18, 0}, {3, 257, 18, 0}, {3, -1, 18, 0}, {3, -256, 18, 0}, {3, 1<<32 + 1, 18, 0}, {3, math.MaxInt, 18, 0}, {3, math.MinInt, 18, 0},
		{5, 0, 0, 0}, {5, 1, 0, 0}, {5, 2, 18, 0},
	} {
		for _, a := range ofOne(c.b, c.i) {
			x := blocksOf(t)
			want := c.cell
			if a.kind == drops || a.kind == tells {
				want = c.none
			}
			faults := 0
			if want != 0 {
				faults = 1
			}
			was := fmt.Sprint(x.h.Blocks())
			if got := x.ask(a); got.code != want || x.h.Faults() != faults {
				t.Fatalf("%v: %v, %d faults", a, got, x.h.Faults())
			}
			if want != 0 && fmt.Sprint(x.h.Blocks()) != was {
				t.Fatalf("%v: there are %v", a, x.h.Blocks())
			}
			x.drained()
		}
	}
}

func TestDrop(t *testing.T) {
	for _, cells := range []int{0, 1, 2, 255, 256} {
		for _, at := range []uint64{1, 2, 3} {
			x := begin(t, cells, cells, cells)
			for b := uint64(1); cells > 0 && b < 4; b++ {
				x.ask(store(b, cells-1, 10+b))
			}
			if got := x.ask(drop(at)); got.code != 0 || x.h.Faults() != 0 || len(x.h.Blocks()) != 2 {
				t.Fatal(got, x.h.Faults(), x.h.Blocks())
			}
			for i := range 3 {
				if got := x.ask(drop(at)); got.code != 17 || x.h.Faults() != i+1 || len(x.h.Blocks()) != 2 {
					t.Fatal(got, x.h.Faults(), x.h.Blocks())
				}
			}
			x.drained()
		}
	}
}

// All orders in which blocks may be dropped, each one twice.
func TestDropInAnyOrder(t *testing.T) {
	for n := range 6 {
		for _, order := range orders(n) {
			x := begin(t, []int{1, 0, 2, 1, 3}[:n]...)
			for i, b := range order {
				x.quick(drop(b))
				x.quick(drop(b))
				if x.check(); len(x.h.Blocks()) != n-i-1 || x.h.Faults() != i+1 {
					t.Fatal(order, x.h.Blocks(), x.h.Faults())
				}
			}
			x.drained()
		}
	}
}

func TestLoadAndStore(t *testing.T) {
	x := begin(t, 1, 256, 3)
	for _, w := range edgeWords {
		for _, c := range []struct {
			b uint64
			i int
		}{{1, 0}, {2, 0}, {2, 1}, {2, 128}, {2, 254}, {2, 255}, {3, 0}, {3, 1}, {3, 2}} {
			if got := x.ask(store(c.b, c.i, w)); got != (told{}) {
				t.Fatal(got)
			}
			for range 2 {
				if got := x.ask(load(c.b, c.i)); got != (told{n: w}) {
					t.Fatalf("%d: %v", w, got)
				}
			}
			x.ask(store(c.b, c.i, w))
		}
	}
	if x.h.Faults() != 0 {
		t.Fatal(x.h.Faults())
	}
}

// Each cell has a word of its own.
func TestEachCell(t *testing.T) {
	for _, cells := range []int{1, 2, 3, 255, 256} {
		x := begin(t, cells, cells)
		for i := range cells {
			x.quick(store(1, i, uint64(i)+1000))
			x.quick(bump(2, cells-1-i, uint64(i)+5000))
		}
		x.check()
		for i := range cells {
			if a, b := x.quick(load(1, i)), x.quick(load(2, i)); a.n != uint64(i)+1000 || b.n != uint64(cells-1-i)+5000 {
				t.Fatalf("%d of %d: %v, %v", i, cells, a, b)
			}
		}
	}
}

func TestSwap(t *testing.T) {
	for _, was := range edgeWords {
		for _, old := range edgeWords {
			for _, w := range edgeWords {
				h := New()
				b := h.Make(2, "")
				h.Store(b, 0, was)
				h.Store(b, 1, old)
				got, code := h.Swap(b, 0, old, w)
				is, _ := h.Load(b, 0)
				other, _ := h.Load(b, 1)
				want := was
				if was == old {
					want = w
				}
				if got != was || code != 0 || is != want || other != old || h.Faults() != 0 {
					t.Fatalf("%d, from %d to %d: %d (%d), is %d, %d faults", was, old, w, got, code, is, h.Faults())
				}
			}
		}
	}
}

func TestSwapAgain(t *testing.T) {
	x := begin(t, 1)
	for _, c := range []struct{ old, w, was, is uint64 }{
		{0, 0, 0, 0}, {1, 1, 0, 0}, {1, 2, 0, 0}, {0, 1, 0, 1}, {0, 1, 1, 1}, {0, 2, 1, 1}, {1, 1, 1, 1}, {1, 1 << 63, 1, 1 << 63}, {0, 5, 1 << 63, 1 << 63}, {1<<63 - 1, 5, 1 << 63, 1 << 63}, {1 << 63, math.MaxUint64, 1 << 63, math.MaxUint64}, {math.MaxUint64, 0, math.MaxUint64, 0}, {0, 1 << 32, 0, 1 << 32}, {0, 6, 1 << 32, 1 << 32},
	} {
		if got := x.ask(swap(1, 0, c.old, c.w)); got != (told{n: c.was}) {
			t.Fatal(c, got)
		}
		if got := x.ask(load(1, 0)); got.n != c.is {
			t.Fatal(c, got)
		}
	}
	if x.h.Faults() != 0 {
		t.Fatal(x.h.Faults())
	}
}

func TestBump(t *testing.T) {
	for _, was := range edgeWords {
		for _, by := range edgeWords {
			x := begin(t, 3)
			x.quick(store(1, 1, was))
			if got := x.ask(bump(1, 1, by)); got != (told{n: was}) {
				t.Fatalf("%d by %d: %v", was, by, got)
			}
			if got := x.ask(bump(1, 1, 0)); got.n != was+by {
				t.Fatalf("%d by %d: is %v", was, by, got)
			}
		}
	}
}

func TestBumpWrittenOut(t *testing.T) {
	x := begin(t, 1)
	for _, c := range []struct{ by, was uint64 }{
		{0, 0}, {1, 0}, {1, 1}, {0, 2}, {1<<63 - 2, 2}, {0, 1 << 63}, {1<<63 - 1, 1 << 63}, {0, math.MaxUint64}, {1, math.MaxUint64}, {0, 0}, {math.MaxUint64, 0}, {math.MaxUint64, math.MaxUint64}, {2, math.MaxUint64 - 1}, {1 << 63, 0}, {1 << 63, 1 << 63}, {5, 0}, {0, 5},
	} {
		if got := x.ask(bump(1, 0, c.by)); got != (told{n: c.was}) {
			t.Fatal(c, got)
		}
	}
	if x.h.Faults() != 0 {
		t.Fatal(x.h.Faults())
	}
}

// P17.2

// All rows of ten calls to Lock and Unlock.
func TestLock(t *testing.T) {
	for row := range 1 << 10 {
		x := begin(t)
		taken, faults := false, 0
		for i := range 10 {
			if row>>i&1 == 0 {
				if got := x.ask(lock); got.is == taken {
					t.Fatalf("%b: Lock at %d: %v", row, i, got)
				}
				taken = true
			} else {
				if !taken {
					faults++
				}
				if got := x.ask(unlock); got.is != taken {
					t.Fatalf("%b: Unlock at %d: %v", row, i, got)
				}
				taken = false
			}
			if x.h.Locked() != taken || x.h.Faults() != faults {
				t.Fatalf("%b: at %d: taken %v, %d faults", row, i, x.h.Locked(), x.h.Faults())
			}
		}
	}
}

// Blocks may be worked on whether the lock is taken or not, and leave it as it is.
func TestLockAndBlocks(t *testing.T) {
	for _, taken := range []bool{false, true} {
		x := begin(t, 2, 1)
		if taken {
			x.ask(lock)
		}
		for b := range uint64(5) {
			for _, i := range []int{-1, 0, 1, 2} {
				for _, a := range append(ofOne(b, i)[1:], makeOf(i, "")) {
					if x.ask(a); x.h.Locked() != taken {
						t.Fatal(a)
					}
				}
			}
		}
		if x.ask(drop(1)); x.h.Locked() != taken || x.ask(unlock).is != taken {
			t.Fatal(taken)
		}
	}
}

// One fault for each answer that is one, and none for others.
func TestFaults(t *testing.T) {
	x := begin(t, 2, 1)
	for _, c := range []struct {
		a     ask
		fault bool
	}{
		{load(1, 0), false}, {load(1, 2), true}, {load(1, -1), true}, {load(0, 0), true}, {load(3, 0), true}, {store(1, 1, 5), false}, {store(1, 2, 5), true}, {store(9, 0, 5), true},
		{swap(1, 1, 5, 6), false}, {swap(1, 1, 5, 7), false}, {swap(1, 2, 0, 7), true}, {swap(0, 0, 0, 7), true}, {bump(2, 0, 1), false}, {bump(2, 1, 1), true}, {bump(3, 0, 1), true},
		{words(1), false}, {words(0), true}, {words(3), true}, {makeOf(-1, ""), false}, {makeOf(257, ""), false}, {makeOf(0, ""), false}, {lock, false}, {lock, false}, {unlock, false}, {unlock, true}, {unlock, true}, {lock, false}, {unlock, false},
		{load(3, 0), true}, {drop(4), true}, {drop(0), true}, {drop(3), false}, {drop(3), true}, {words(3), true}, {load(3, 0), true}, {store(3, 0, 0), true}, {swap(3, 0, 0, 0), true}, {bump(3, 0, 0), true}, {drop(1), false}, {drop(2), false}, {load(2, 0), true}, {makeOf(1, ""), false}, {load(4, 0), false},
	} {
		was := x.h.Faults()
		x.ask(c.a)
		if more := x.h.Faults() - was; more != 0 && !c.fault || more != 1 && c.fault {
			t.Fatalf("%v: %d more", c.a, more)
		}
	}
}

// What only asks is no fault, whatever it is asked.
func TestAskingIsNoFault(t *testing.T) {
	for _, x := range []*both{begin(t), blocksOf(t)} {
		was := x.h.Faults()
		for _, b := range edgesOf(6) {
			x.h.Size(b)
			x.h.Blocks()
			x.h.Locked()
			x.h.Faults()
			x.h.Copy().Load(b, 500)
		}
		if x.check(); x.h.Faults() != was {
			t.Fatal(x.h.Faults(), was)
		}
	}
}

func TestBlocks(t *testing.T) {
	x := begin(t)
	for _, c := range []struct {
		a    ask
		want []uint64
	}{
		{lock, nil}, {makeOf(0, "a"), []uint64{1}}, {drop(2), []uint64{1}}, {drop(1), nil}, {makeOf(1, "b"), []uint64{2}}, {makeOf(256, ""), []uint64{2, 3}}, {makeOf(257, ""), []uint64{2, 3}}, {makeOf(2, ""), []uint64{2, 3, 4}}, {drop(3), []uint64{2, 4}}, {makeOf(0, ""), []uint64{2, 4, 5}}, {drop(3), []uint64{2, 4, 5}}, {drop(2), []uint64{4, 5}}, {drop(5), []uint64{4}}, {makeOf(1, ""), []uint64{4, 6}}, {drop(4), []uint64{6}}, {drop(6), nil}, {makeOf(1, ""), []uint64{7}},
	} {
		x.ask(c.a)
		if l := x.h.Blocks(); !slices.Equal(l, c.want) {
			t.Fatalf("%v: %v", c.a, l)
		}
	}
}

func TestBlocksRise(t *testing.T) {
	r := rand.New(rand.NewSource(172))
	for _, n := range []int{1, 7, 8, 9, 64, 300} {
		x := begin(t, make([]int, n)...)
		for _, i := range r.Perm(n)[:n/2] {
			x.quick(drop(uint64(i) + 1))
		}
		for range 5 {
			if l := x.h.Blocks(); !slices.IsSorted(l) || !slices.Equal(l, x.k.there()) || len(l) != n-n/2 {
				t.Fatal(n, l)
			}
		}
	}
}

func TestSize(t *testing.T) {
	h := New()
	for cells := range 257 {
		if b := h.Make(cells, "text"); h.Size(b) != cells || h.Size(b+1) != 0 {
			t.Fatal(cells, h.Size(b))
		}
	}
	for cells := range 257 {
		b := uint64(cells) + 1
		h.Drop(b)
		if h.Size(b) != 0 || b < 257 && h.Size(b+1) != cells+1 {
			t.Fatal(cells, h.Size(b))
		}
	}
	for _, b := range edgesOf(257) {
		if h.Size(b) != 0 || h.Faults() != 0 {
			t.Fatal(b, h.Size(b), h.Faults())
		}
	}
}

// heaps is an empty heap, and some with blocks, dropped ones, a lock that is taken, and faults.
func heaps(t *testing.T) []*both {
	t.Helper()
	l := []*both{begin(t), {t, &Heap{}, &ledger{}}, begin(t, 1), begin(t, 0, 1, 256), blocksOf(t)}
	for _, asks := range [][]ask{{lock}, {unlock}, {lock, unlock, unlock}, {makeOf(1, "a"), drop(1)}, {load(0, 0), load(5, 5)}, {makeOf(2, "a"), lock, store(1, 1, 9), load(1, 2), drop(7)}, {makeOf(1, "a"), makeOf(1, "b"), makeOf(1, "c"), drop(3), drop(1), bump(2, 0, 8), lock, lock}} {
		x := begin(t)
		for _, a := range asks {
			x.ask(a)
		}
		l = append(l, x)
	}
	return l
}

func TestCopy(t *testing.T) {
	for i := range heaps(t) {
		x := heaps(t)[i]
		copied := x.copied()
		again := copied.copied()
		copied.drained()
		x.check()
		again.check()
		again.drained()
		x.check()
		x.drained()
	}
}

// Neither of them turns with what comes later to the other one.
func TestCopyGoesItsOwnWay(t *testing.T) {
	later := []ask{makeOf(3, "later"), lock, unlock, unlock, lock}
	for b := range uint64(8) {
		later = append(later, ofOne(b, 0)...)
		later = append(later, store(b, 255, 44), bump(b, 1, 55))
	}
	for i := range heaps(t) {
		for _, which := range []int{0, 1, 2} {
			l := []*both{heaps(t)[i]}
			l = append(l, l[0].copied())
			l = append(l, l[1].copied())
			for _, a := range later {
				l[which].quick(a)
			}
			for _, x := range l {
				x.check()
			}
			for _, x := range l {
				x.drained()
			}
		}
	}
}

func TestCopyWrittenOut(t *testing.T) {
	h := New()
	h.Make(1, "one")
	h.Make(1, "two")
	h.Store(2, 0, 5)
	h.Drop(1)
	h.Lock()
	h.Load(3, 0)
	c := h.Copy()
	if !c.Locked() || c.Faults() != 1 || !slices.Equal(c.Blocks(), []uint64{2}) || c.Size(2) != 1 {
		t.Fatal(c.Locked(), c.Faults(), c.Blocks())
	}
	if code := c.Drop(1); code != api.Freed || c.Faults() != 2 || h.Faults() != 1 {
		t.Fatal(code, c.Faults(), h.Faults())
	}
	if w, code := c.Bump(2, 0, 1); w != 5 || code != api.OK {
		t.Fatal(w, code)
	}
	if w, _ := h.Load(2, 0); w != 5 {
		t.Fatal(w)
	}
	if _, code := c.Load(3, 0); code != api.None {
		t.Fatal(code)
	}
	if a, b := c.Make(2, "three"), h.Make(4, "four"); a != 3 || b != 3 || c.Size(3) != 2 || h.Size(3) != 4 {
		t.Fatal(a, b, c.Size(3), h.Size(3))
	}
	if !h.Unlock() || !c.Locked() || c.Lock() {
		t.Fatal(c.Locked())
	}
	if c.Drop(2) != api.OK || !slices.Equal(h.Blocks(), []uint64{2, 3}) {
		t.Fatal(h.Blocks())
	}
	if text, code := h.Words(2); text != "two" || code != api.OK {
		t.Fatal(text, code)
	}
}

// anyAsk is a call of a heap that gave so many numbers; mostly of a block that was given, and of a cell that is there.
func anyAsk(r *rand.Rand, given int) ask {
	a := ask{kind: r.Intn(kinds), b: 1 + uint64(r.Intn(given+1)), i: r.Intn(4), old: uint64(r.Intn(3)), w: uint64(r.Intn(3)), text: pick(r, shortTexts)}
	if r.Intn(8) == 0 {
		a.b = pick(r, edgesOf(given))
	}
	if r.Intn(8) == 0 {
		a.i = pick(r, wrongCells)
	}
	if r.Intn(4) == 0 {
		a.old, a.w = pick(r, edgeWords), pick(r, edgeWords)
	}
	return a
}

func TestAnyCalls(t *testing.T) {
	r := rand.New(rand.NewSource(173))
	for range 600 {
		l := []*both{begin(t), {t, &Heap{}, &ledger{}}}
		for range 150 {
			x := pick(r, l)
			a := anyAsk(r, len(x.k.lines))
			if a.kind == drops && r.Intn(3) > 0 {
				continue
			}
			x.ask(a)
			if r.Intn(40) == 0 {
				l = append(l, x.copied())
			}
		}
		for _, x := range l {
			x.drained()
		}
	}
}

// All rows of five calls, of a heap with little in it, and a copy behind some of them.
func TestAllRowsOfCalls(t *testing.T) {
	asks := []ask{makeOf(1, "a"), makeOf(-1, "b"), drop(1), drop(2), load(1, 0), store(1, 0, 5), swap(2, 0, 0, 5), bump(1, 0, math.MaxUint64), lock, unlock, words(2)}
	n := len(asks)
	for which := range n * n * n * n * n {
		x := &both{t, New(), &ledger{}}
		for rest, i := which, 0; i < 5; rest, i = rest/n, i+1 {
			x.quick(asks[rest%n])
			if which%7 == i {
				old := x
				x = &both{t, x.h.Copy(), x.k.copy()}
				old.quick(asks[which%n])
			}
		}
		x.checkOnce()
	}
}

// P17.3

// seen is all of a block that may be asked, by a copy of its heap, so that faults are no matter.
func seen(h *Heap, b uint64) string {
	own := h.Copy()
	text, code := own.Words(b)
	s := fmt.Sprintf("%d cells, %q, %d:", own.Size(b), text, code)
	for i := range own.Size(b) + 1 {
		w, code := own.Load(b, i)
		s += fmt.Sprintf(" %d (%d)", w, code)
	}
	return s
}

// Calls of one block leave all others as they were.
func TestOthersStay(t *testing.T) {
	r := rand.New(rand.NewSource(174))
	for range 300 {
		h := New()
		for i := range 5 {
			h.Make(i, fmt.Sprint("text ", i))
		}
		for range 60 {
			a := anyAsk(r, 5)
			var were []string
			for b := range uint64(8) {
				were = append(were, seen(h, b))
			}
			got := asked(h, a)
			for b := range uint64(8) {
				if is := seen(h, b); is != were[b] && a.b != b && !(a.kind == makes && got.n == b) {
					t.Fatalf("%v: %d is %s, and was %s", a, b, is, were[b])
				}
			}
		}
	}
}

// What calls of one block are told is the same whether others are called among them or not.
func TestAmongOthers(t *testing.T) {
	r := rand.New(rand.NewSource(175))
	for range 500 {
		alone, among := New(), New()
		for i := range 4 {
			alone.Make(i, fmt.Sprint(i))
			among.Make(i, fmt.Sprint(i))
		}
		which := 1 + uint64(r.Intn(4))
		for range 80 {
			a := anyAsk(r, 4)
			if a.kind == drops && r.Intn(4) > 0 {
				continue
			}
			got := asked(among, a)
			if a.b != which || a.kind == makes || a.kind == locks || a.kind == unlocks {
				continue
			}
			if want := asked(alone, a); got != want {
				t.Fatalf("%v: %v, and alone %v", a, got, want)
			}
		}
		if a, b := seen(among, which), seen(alone, which); a != b {
			t.Fatalf("%d is %s, and alone %s", which, a, b)
		}
	}
}

// A nil heap and one that New did not make

func TestNilHeap(t *testing.T) {
	var h *Heap
	for range 2 {
		for _, b := range edgesOf(3) {
			for _, i := range append([]int{0, 1, 255}, wrongCells...) {
				for _, a := range append(ofOne(b, i), ask{kind: swaps, b: b, i: i}) {
					if got := asked(h, a); got != (told{code: api.None}) {
						t.Fatalf("%v: %v", a, got)
					}
				}
				for _, a := range []ask{makeOf(i, "text"), lock, unlock} {
					if got := asked(h, a); got != (told{}) {
						t.Fatalf("%v: %v", a, got)
					}
				}
			}
			if h.Locked() || h.Faults() != 0 || len(h.Blocks()) != 0 || h.Size(b) != 0 || h.Copy() != nil {
				t.Fatal(h.Locked(), h.Faults(), h.Blocks(), h.Size(b), h.Copy())
			}
		}
	}
}

// Each call may be the first one of a plain heap, and of a copy of one.
func TestPlainHeap(t *testing.T) {
	firsts := slices.Concat(ofOne(0, 0), ofOne(1, 0), ofOne(math.MaxUint64, -1), []ask{makeOf(0, ""), makeOf(1, "text"), makeOf(256, ""), makeOf(257, ""), makeOf(-1, ""), lock, unlock})
	for _, a := range firsts {
		var plain Heap
		for _, h := range []*Heap{{}, new(Heap), &plain, (&Heap{}).Copy(), (&Heap{}).Copy().Copy()} {
			x := &both{t, h, &ledger{}}
			x.quick(a)
			x.check()
			x.copied().drained()
			x.drained()
		}
	}
	x := &both{t, &Heap{}, &ledger{}}
	x.check()
	if x.h.Locked() || x.h.Faults() != 0 || len(x.h.Blocks()) != 0 || x.h.Size(1) != 0 {
		t.Fatal(x.h.Blocks())
	}
	x.drained()
}

// New memory

// What is stored into a list that was handed out, or put behind it, changes no heap and no other list; and later calls change no list.
func TestBlocksAreNewMemory(t *testing.T) {
	x := begin(t, 1, 1, 1, 1, 1)
	var lists, were [][]uint64
	for i := range 60 {
		one, two := x.h.Blocks(), x.h.Blocks()
		was := slices.Clone(two)
		_ = append(one, 99, 98, 97)
		_ = append(x.h.Blocks()[:0], 96, 95)
		for j := range one {
			one[j] = 94
		}
		if !slices.Equal(two, was) {
			t.Fatalf("%v was %v", two, was)
		}
		lists, were = append(lists, two), append(were, was)
		x.check()
		if i%4 == 0 {
			x.ask(makeOf(1, ""))
		} else {
			x.ask(drop(uint64(i/4) + uint64(i%4)))
		}
	}
	for i, l := range lists {
		if !slices.Equal(l, were[i]) {
			t.Fatalf("%d is %v, and was %v", i, l, were[i])
		}
	}
	x.drained()
}

func TestListsOfCopies(t *testing.T) {
	x := begin(t, 1, 1, 1)
	y := x.copied()
	one, two := x.h.Blocks(), y.h.Blocks()
	one[0], two[1] = 50, 60
	x.check()
	y.check()
	if one[1] != 2 || two[0] != 1 {
		t.Fatal(one, two)
	}
}

func TestHeapsHaveNothingInCommon(t *testing.T) {
	r := rand.New(rand.NewSource(176))
	l := []*both{begin(t, 1, 2), begin(t, 1, 2), {t, &Heap{}, &ledger{}}, begin(t)}
	for range 2000 {
		x := pick(r, l)
		x.quick(anyAsk(r, min(len(x.k.lines), 6)))
		if r.Intn(20) == 0 {
			for _, y := range l {
				y.check()
			}
		}
	}
	for _, x := range l {
		x.drained()
	}
}

// A block's text is its own: it stays, whatever becomes of the memory in which it came.
func TestTextsAreNotKept(t *testing.T) {
	bytes := []byte("text")
	h := New()
	h.Make(0, unsafe.String(&bytes[0], 4))
	c := h.Copy()
	for i := range bytes {
		bytes[i] = '-'
	}
	for _, x := range []*Heap{h, c} {
		if text, code := x.Words(1); text != "text" || code != 0 {
			t.Fatal(text, code)
		}
	}
}

// What the README tells of this layer.
func TestReadme(t *testing.T) {
	h := New()
	b := h.Make(2, "text")
	if w, code := h.Bump(b, 0, 5); b != 1 || w != 0 || code != api.OK {
		t.Fatal(b, w, code)
	}
	if w, code := h.Swap(b, 0, 4, 9); w != 5 || code != api.OK {
		t.Fatal(w, code)
	}
	if w, code := h.Load(b, 2); w != 0 || code != api.Bounds {
		t.Fatal(w, code)
	}
	c := h.Copy()
	h.Drop(b)
	if w, code := h.Load(b, 0); w != 0 || code != api.Freed || h.Faults() != 2 {
		t.Fatal(w, code, h.Faults())
	}
	if w, code := c.Load(b, 0); w != 5 || code != api.OK || c.Faults() != 1 {
		t.Fatal(w, code, c.Faults())
	}
}
