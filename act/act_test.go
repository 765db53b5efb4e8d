package act

import (
	"fmt"
	"math"
	"math/rand"
	"reflect"
	"slices"
	"strings"
	"testing"
	"unsafe"

	"philtre/api"
	"philtre/heap"
	"philtre/quote"
)

// edgeWords are words at the ends, and some that could be taken for others if they were cut, or had a sign.
var edgeWords = []uint64{0, 1, 2, 9, 10, 11, 99, 255, 256, 1<<31 - 1, 1 << 31, 1<<32 - 1, 1 << 32, 1<<32 + 1, 1<<63 - 1, 1 << 63, 1<<63 + 1, 1<<63 + 2, math.MaxUint64 - 5, math.MaxUint64 - 1, math.MaxUint64}

// fewWords are so few that a cell often has the one that a swap asks for.
var fewWords = []uint64{0, 1, 2, 1 << 63, math.MaxUint64}

// edgeCells are cells that a block of few has not, and some that an act may not have.
var edgeCells = []int{math.MinInt, math.MinInt + 1, -1 << 32, -2, -1, 5, 255, 256, 257, 258, 1 << 31, 1 << 32, 1<<32 + 1, math.MaxInt - 1, math.MaxInt}

var someTexts = []string{"", "a", "-", "b c", "\x00", "\n", "\xff\xfe", "ü"}

// texts are of any bytes, some as long as they may be, and none longer.
func texts() []string {
	var all strings.Builder
	for b := range 256 {
		all.WriteByte(byte(b))
	}
	return append(slices.Clone(someTexts), " ", "  ", "a ", " a", "\"", "'", "`", "%", "%61", "%20", "\\n", "\r\n", "\t", "none", "load 1 0", "häßlich", "日本", "\x80", "\xf0\x9f", "a\x00b", "+", "~", "azAZ09.:/_",
		all.String(), strings.Repeat("x", 4095), strings.Repeat("x", 4096), strings.Repeat("ü", 2048), strings.Repeat("\xc3", 4096), strings.Repeat(" ", 4096))
}

// longTexts are longer than they may be.
func longTexts() []string {
	return []string{strings.Repeat("x", 4097), strings.Repeat("ü", 2048) + "x", strings.Repeat("ü", 2049), strings.Repeat("日", 4096), strings.Repeat("\xff", 4097), strings.Repeat(" ", 8192), strings.Repeat("x", 1<<16), strings.Repeat("x", 1<<16+1), strings.Repeat("x", 1<<20)}
}

// set is an act with another field.
func set(x api.Act, f field, n uint64, s string) api.Act {
	switch f {
	case block:
		x.Block = n
	case cell:
		x.Cell = int(n)
	case old:
		x.Old = n
	case new_:
		x.New = n
	case text:
		x.Text = s
	}
	return x
}

// filled is an act of a kind, each field that this has at other than zero.
func filled(k kind) api.Act {
	x := api.Act{Kind: k.number}
	for i, f := range k.fields {
		x = set(x, f, uint64(i)+1, "text")
	}
	return x
}

// foreign is an act with one field at other than zero that its kind has not, in all the ways that are tried here.
func foreign(x api.Act, k kind) []api.Act {
	var l []api.Act
	for _, f := range allFields {
		if slices.Contains(k.fields, f) {
			continue
		}
		if f == text {
			for _, s := range texts()[1:] {
				l = append(l, set(x, f, 0, s))
			}
			continue
		}
		for _, n := range edgeWords[1:] {
			l = append(l, set(x, f, n, ""))
		}
	}
	return l
}

// product is acts of each kind, and of kinds that are none, with each field at each of a few.
func product() []api.Act {
	var l []api.Act
	few := []string{"", "a b", longTexts()[0]}
	for _, kd := range []int{math.MinInt, -1, 0, 1, 2, 3, 4, 5, 6, 7, 8, 9, 10, 11, 256 + 8, math.MaxInt} {
		for _, b := range []uint64{0, 1, 2, math.MaxUint64} {
			for _, i := range []int{math.MinInt, -1, 0, 1, 257, math.MaxInt} {
				for _, o := range []uint64{0, 1, 1 << 63} {
					for _, n := range []uint64{0, 1, math.MaxUint64} {
						for _, s := range few {
							l = append(l, api.Act{Kind: kd, Block: b, Cell: i, Old: o, New: n, Text: s})
						}
					}
				}
			}
		}
	}
	return l
}

// may, and mayNot, hold an act against what is promised of one that may be, and of one that may not.

func may(t *testing.T, x api.Act) {
	t.Helper()
	k, _ := kindOf(x.Kind)
	if !mayBe(x) || !Right(x) {
		t.Fatalf("%.200v may be", x)
	}
	if Looks(x) != k.looks {
		t.Fatalf("%.200v: looks %v", x, Looks(x))
	}
	if got := Text(x); got != line(x) {
		t.Fatalf("%.200v: %.200q, and not %.200q", x, got, line(x))
	}
}

func mayNot(t *testing.T, x api.Act) {
	t.Helper()
	if mayBe(x) || Right(x) || Looks(x) || Text(x) != "" {
		t.Fatalf("%.200v may not be: %v, %v, %.200q", x, Right(x), Looks(x), Text(x))
	}
	h := heap.New()
	for _, h := range []*heap.Heap{nil, {}, h} {
		ahead := look(h)
		if got := Do(h, x); got != (api.Got{}) || !reflect.DeepEqual(look(h), ahead) {
			t.Fatalf("%.200v: %v, %+v", x, got, look(h))
		}
		if !Ready(h, x) {
			t.Fatalf("%.200v is not ready", x)
		}
	}
}

func store(b uint64, i int, w uint64) api.Act {
	return api.Act{Kind: api.Store, Block: b, Cell: i, New: w}
}

func makes(cells int, s string) api.Act { return api.Act{Kind: api.Make, Cell: cells, Text: s} }

func drop(b uint64) api.Act { return api.Act{Kind: api.Drop, Block: b} }

// ground is acts behind which a heap has the blocks 1 (no cell), 2 (one), 4 (three) and 6 (256), and had 3 and 5.
func ground() []api.Act {
	return []api.Act{
		makes(0, "one"), makes(1, ""), makes(2, "three"), makes(3, "four of b\xff"), makes(1, "five"), makes(256, "six"),
		store(2, 0, 7), store(4, 0, 1), store(4, 2, math.MaxUint64), store(6, 255, 1<<63), store(3, 0, 5), drop(3), drop(5),
	}
}

// grounds are heaps of many kinds: empty, with blocks, and with the lock taken; with faults, and with none.
func grounds(t *testing.T) []both {
	t.Helper()
	lock := api.Act{Kind: api.Lock}
	return []both{
		begin(t), {t, &heap.Heap{}, &ledger{}}, begin(t, lock), begin(t, ground()...), begin(t, append(ground(), lock)...),
		begin(t, makes(1, ""), drop(1), drop(1), drop(2)), begin(t, makes(2, "a"), makes(2, "a"), store(2, 0, 5), store(1, 1, 5)),
	}
}

// P18.1

func TestExample(t *testing.T) {
	h := heap.New()
	for _, cells := range []int{1, 1} {
		h.Make(cells, "")
	}
	x := api.Act{Kind: 2, Block: 2, Cell: 0, New: 5}
	if got := Do(h, x); got != (api.Got{}) {
		t.Fatal(got)
	}
	if w, code := h.Load(2, 0); w != 5 || code != api.OK || Text(x) != "store 2 0 5" {
		t.Fatal(w, code, Text(x))
	}
	if w, _ := h.Load(1, 0); w != 0 || h.Faults() != 0 {
		t.Fatal(w, h.Faults())
	}
}

// The kinds have the numbers that the document names.
func TestNumbersOfKinds(t *testing.T) {
	got := []int{api.NoAct, api.Load, api.Store, api.Swap, api.Bump, api.Make, api.Words, api.Drop, api.Lock, api.Unlock, api.Await}
	for i, n := range got {
		if n != i || kinds[i].number != i {
			t.Fatal(i, n)
		}
	}
}

func TestRight(t *testing.T) {
	may(t, api.Act{})
	for _, k := range kinds {
		may(t, api.Act{Kind: k.number})
		may(t, filled(k))
		for _, f := range k.fields {
			may(t, set(api.Act{Kind: k.number}, f, 1, "x"))
			may(t, set(filled(k), f, 0, ""))
		}
	}
}

func TestRightWords(t *testing.T) {
	for _, k := range kinds {
		for _, f := range k.fields {
			if f == cell || f == text {
				continue
			}
			for _, n := range edgeWords {
				may(t, set(api.Act{Kind: k.number}, f, n, ""))
				may(t, set(filled(k), f, n, ""))
			}
		}
	}
}

func TestWrongFields(t *testing.T) {
	for _, k := range kinds {
		for _, x := range append(foreign(api.Act{Kind: k.number}, k), foreign(filled(k), k)...) {
			mayNot(t, x)
		}
	}
}

func TestWrongKinds(t *testing.T) {
	for _, n := range wrongKinds {
		x := api.Act{Kind: n}
		mayNot(t, x)
		for _, k := range kinds {
			x := filled(k)
			x.Kind = n
			mayNot(t, x)
		}
		for _, f := range allFields {
			mayNot(t, set(x, f, 1, "x"))
		}
	}
}

func TestCells(t *testing.T) {
	for _, k := range kinds {
		for _, i := range append([]int{0, 1}, edgeCells...) {
			for _, x := range []api.Act{{Kind: k.number}, filled(k)} {
				x.Cell = i
				if i == 0 || i > 0 && slices.Contains(k.fields, cell) {
					may(t, x)
				} else {
					mayNot(t, x)
				}
			}
		}
	}
}

func TestTexts(t *testing.T) {
	for _, s := range texts() {
		for _, cells := range []int{0, 1, 256, 257, math.MaxInt} {
			may(t, makes(cells, s))
		}
		mayNot(t, makes(-1, s))
		mayNot(t, makes(math.MinInt, s))
	}
	for _, s := range longTexts() {
		for _, k := range kinds {
			x := filled(k)
			x.Text = s
			mayNot(t, x)
			mayNot(t, api.Act{Kind: k.number, Text: s})
		}
	}
}

// Each act of many is one that may be just if it is reckoned to be.
func TestProduct(t *testing.T) {
	right := 0
	for _, x := range product() {
		if mayBe(x) {
			may(t, x)
			right++
		} else {
			mayNot(t, x)
		}
	}
	if right < 100 {
		t.Fatal(right)
	}
}

func TestLooks(t *testing.T) {
	for n, want := range []bool{false, true, false, false, false, false, true, false, false, false, true} {
		if x := filled(kinds[n]); Looks(x) != want || Looks(api.Act{Kind: n}) != want {
			t.Fatal(n)
		}
	}
	for _, x := range []api.Act{{Kind: 1, Cell: -1}, {Kind: 10, Cell: -1}, {Kind: 6, Cell: 1}, {Kind: 1, New: 1}, {Kind: 10, Old: 1}, {Kind: 6, Text: "x"}, {Kind: -1}, {Kind: 11}} {
		if Looks(x) {
			t.Fatal(x)
		}
	}
}

// What each kind is answered, and what it does, written out.
func TestDo(t *testing.T) {
	for _, c := range []struct {
		x      api.Act
		got    api.Got
		turned string
		faults int
	}{
		{api.Act{}, api.Got{}, "", 0},
		{api.Act{Kind: 1, Block: 2}, api.Got{Word: 7}, "", 0},
		{api.Act{Kind: 1, Block: 4, Cell: 2}, api.Got{Word: math.MaxUint64}, "", 0},
		{api.Act{Kind: 1, Block: 4, Cell: 3}, api.Got{}, "", 1},
		{api.Act{Kind: 1, Block: 1}, api.Got{}, "", 1},
		{api.Act{Kind: 10, Block: 6, Cell: 255}, api.Got{Word: 1 << 63}, "", 0},
		{api.Act{Kind: 10, Block: 6, Cell: 254}, api.Got{}, "", 0},
		{api.Act{Kind: 10, Block: 6, Cell: 256}, api.Got{}, "", 1},
		{api.Act{Kind: 10, Block: 3}, api.Got{}, "", 1},
		{api.Act{Kind: 2, Block: 4, Cell: 1, New: 3}, api.Got{}, "cell 4 1", 0},
		{api.Act{Kind: 2, Block: 4, New: 1}, api.Got{}, "", 0},
		{api.Act{Kind: 2, Block: 4, New: 0}, api.Got{}, "cell 4 0", 0},
		{api.Act{Kind: 2, Block: 2, Cell: 1, New: 3}, api.Got{}, "", 1},
		{api.Act{Kind: 3, Block: 4, Cell: 0, Old: 1, New: 9}, api.Got{Word: 1}, "cell 4 0", 0},
		{api.Act{Kind: 3, Block: 4, Cell: 0, Old: 2, New: 9}, api.Got{Word: 1}, "", 0},
		{api.Act{Kind: 3, Block: 4, Cell: 0, Old: 9, New: 1}, api.Got{Word: 1}, "", 0},
		{api.Act{Kind: 3, Block: 4, Cell: 1, New: 9}, api.Got{}, "cell 4 1", 0},
		{api.Act{Kind: 3, Block: 4, Cell: 2, Old: math.MaxUint64}, api.Got{Word: math.MaxUint64}, "cell 4 2", 0},
		{api.Act{Kind: 3, Block: 4, Cell: 3, New: 9}, api.Got{}, "", 1},
		{api.Act{Kind: 4, Block: 2, New: 3}, api.Got{Word: 7}, "cell 2 0", 0},
		{api.Act{Kind: 4, Block: 2, New: 0}, api.Got{Word: 7}, "", 0},
		{api.Act{Kind: 4, Block: 4, Cell: 2, New: 1}, api.Got{Word: math.MaxUint64}, "cell 4 2", 0},
		{api.Act{Kind: 4, Block: 5, New: 1}, api.Got{}, "", 1},
		{api.Act{Kind: 5}, api.Got{Word: 7}, "made 7", 0},
		{api.Act{Kind: 5, Cell: 256, Text: "x"}, api.Got{Word: 7}, "made 7", 0},
		{api.Act{Kind: 5, Cell: 257, Text: "x"}, api.Got{}, "", 0},
		{api.Act{Kind: 6, Block: 1}, api.Got{Text: "one"}, "", 0},
		{api.Act{Kind: 6, Block: 2}, api.Got{}, "", 0},
		{api.Act{Kind: 6, Block: 4}, api.Got{Text: "four of b\xff"}, "", 0},
		{api.Act{Kind: 6, Block: 3}, api.Got{}, "", 1},
		{api.Act{Kind: 6, Block: 7}, api.Got{}, "", 1},
		{api.Act{Kind: 7, Block: 1}, api.Got{}, "dropped 1", 0},
		{api.Act{Kind: 7, Block: 6}, api.Got{}, "dropped 6", 0},
		{api.Act{Kind: 7, Block: 5}, api.Got{}, "", 1},
		{api.Act{Kind: 7}, api.Got{}, "", 1},
		{api.Act{Kind: 8}, api.Got{Word: 1}, "lock", 0},
		{api.Act{Kind: 9}, api.Got{}, "", 1},
	} {
		h := begin(t, ground()...).h
		ahead := look(h)
		got := Do(h, c.x)
		behind := look(h)
		if s := strings.Join(turned(ahead, behind), ","); got != c.got || s != c.turned || behind.faults-ahead.faults != c.faults {
			t.Fatalf("%+v: %+v, %q, %d faults", c.x, got, s, behind.faults-ahead.faults)
		}
	}
}

// Acts of blocks and cells that are there, and that are not.
func TestDoThere(t *testing.T) {
	blocks := append([]uint64{3, 4, 5, 6, 7, 8}, edgeWords...)
	for _, g := range grounds(t) {
		for _, k := range kinds {
			if !slices.Contains(k.fields, block) {
				continue
			}
			cells := []int{0}
			if slices.Contains(k.fields, cell) {
				cells = append([]int{0, 1, 2, 3, 4}, edgeCells...)
			}
			for _, b := range blocks {
				for _, i := range cells {
					x := filled(k)
					x.Block, x.Cell = b, i
					c := g.copy()
					c.do(x)
					c.do(x)
				}
			}
		}
	}
}

// A Load and an Await are answered alike, and count alike.
func TestAwaitIsAnsweredAsLoad(t *testing.T) {
	for _, g := range grounds(t) {
		for b := range uint64(9) {
			for _, i := range append([]int{0, 1, 2, 3}, edgeCells...) {
				l, a := g.copy(), g.copy()
				x := l.do(api.Act{Kind: api.Load, Block: b, Cell: i})
				y := a.do(api.Act{Kind: api.Await, Block: b, Cell: i})
				if x != y || !reflect.DeepEqual(look(l.h), look(a.h)) {
					t.Fatal(b, i, x, y)
				}
			}
		}
	}
}

func TestStore(t *testing.T) {
	x := begin(t, makes(2, ""), makes(2, ""))
	for _, b := range []uint64{1, 2} {
		for i := range 2 {
			for _, w := range edgeWords {
				x.do(store(b, i, w))
				if got := x.do(api.Act{Kind: api.Load, Block: b, Cell: i}); got != (api.Got{Word: w}) {
					t.Fatal(b, i, w, got)
				}
			}
		}
	}
}

func TestSwap(t *testing.T) {
	for _, was := range edgeWords {
		for _, o := range edgeWords {
			for _, n := range edgeWords {
				x := begin(t, makes(2, ""))
				x.quick(store(1, 1, was))
				x.quick(store(1, 0, o))
				if got := x.quick(api.Act{Kind: api.Swap, Block: 1, Cell: 1, Old: o, New: n}); got.Word != was || got.Text != "" {
					t.Fatal(was, o, n, got)
				}
				want := was
				if was == o {
					want = n
				}
				if w, _ := x.h.Load(1, 1); w != want {
					t.Fatal(was, o, n, w)
				}
				if w, _ := x.h.Load(1, 0); w != o {
					t.Fatal(was, o, n, w)
				}
			}
		}
	}
}

func TestBump(t *testing.T) {
	for _, was := range edgeWords {
		for _, by := range edgeWords {
			x := begin(t, makes(3, ""), store(1, 2, was))
			for range 3 {
				x.do(api.Act{Kind: api.Bump, Block: 1, Cell: 2, New: by})
			}
			if w, _ := x.h.Load(1, 2); w != was+by+by+by {
				t.Fatal(was, by, w)
			}
		}
	}
}

func TestMake(t *testing.T) {
	for _, g := range grounds(t) {
		for _, cells := range []int{0, 1, 2, 255, 256, 257, 258, 512, 1 << 16, 1 << 31, 1 << 32, 1<<32 + 1, math.MaxInt} {
			c := g.copy()
			next := look(c.h).next
			if cells > 256 {
				next = 0
			}
			faults := c.h.Faults()
			if got := c.do(makes(cells, "text")); got != (api.Got{Word: next}) || c.h.Faults() != faults {
				t.Fatal(cells, got)
			}
		}
		for _, s := range texts() {
			b := g.do(makes(1, s)).Word
			if got := g.do(api.Act{Kind: api.Words, Block: b}); got != (api.Got{Text: s}) {
				t.Fatalf("%.200q: %.200v", s, got)
			}
		}
		for _, s := range longTexts() {
			g.do(makes(1, s))
		}
	}
}

func TestLock(t *testing.T) {
	lock, unlock := api.Act{Kind: api.Lock}, api.Act{Kind: api.Unlock}
	for _, g := range grounds(t) {
		for bits := range 1 << 7 {
			c := g.copy()
			for i := range 7 {
				x, free, faults := lock, !c.h.Locked(), c.h.Faults()
				if bits>>i&1 == 1 {
					x = unlock
				}
				want := api.Got{}
				switch {
				case x == lock && free:
					want.Word = 1
				case x == unlock && free:
					faults++
				}
				if got := c.do(x); got != want || c.h.Faults() != faults || c.h.Locked() != (x == lock) {
					t.Fatalf("%v at %b, %d: %v", x, bits, i, got)
				}
			}
		}
	}
}

// What may not be, and NoAct, does nothing, whatever the heap is.
func TestDoNothing(t *testing.T) {
	for _, g := range grounds(t) {
		for _, k := range kinds {
			for _, x := range append(foreign(api.Act{Kind: k.number}, k), append(foreign(filled(k), k), api.Act{}, api.Act{Kind: k.number, Cell: -1}, makes(1, longTexts()[0]))...) {
				if got := g.quick(x); got != (api.Got{}) {
					t.Fatalf("%.200v: %v", x, got)
				}
				if !g.ready(x) {
					t.Fatalf("%.200v", x)
				}
			}
		}
		for _, n := range wrongKinds {
			g.do(api.Act{Kind: n})
			g.do(api.Act{Kind: n, Block: 2, New: 3})
		}
	}
}

// Each act of many, on each of many heaps.
func TestDoProduct(t *testing.T) {
	all := product()
	for _, g := range grounds(t) {
		for _, x := range all {
			if mayBe(x) {
				c := g.copy()
				c.ready(x)
				c.do(x)
			} else if got := g.quick(x); got != (api.Got{}) {
				t.Fatalf("%.200v: %v", x, got)
			}
		}
		g.check(api.Act{})
	}
}

func TestNilHeap(t *testing.T) {
	var none *heap.Heap
	for _, x := range product() {
		if got := Do(none, x); got != (api.Got{}) {
			t.Fatalf("%.200v: %v", x, got)
		}
		waits := mayBe(x) && (x.Kind == 8 || x.Kind == 10)
		if Ready(none, x) == waits {
			t.Fatalf("%.200v: ready %v", x, !waits)
		}
	}
}

// A heap that New did not make is empty, and may be used.
func TestPlainHeap(t *testing.T) {
	for _, k := range kinds {
		for _, x := range []api.Act{{Kind: k.number}, filled(k)} {
			g := both{t, &heap.Heap{}, &ledger{}}
			g.ready(x)
			g.do(x)
		}
	}
	g := both{t, &heap.Heap{}, &ledger{}}
	for _, x := range ground() {
		g.do(x)
	}
}

// All rows of three acts, out of a few on a small heap.
func TestRowsOfThree(t *testing.T) {
	acts := []api.Act{
		{}, {Kind: 1, Block: 1}, {Kind: 10, Block: 1}, store(1, 0, 2), store(2, 0, 2), {Kind: 3, Block: 1, New: 2}, {Kind: 3, Block: 1, Old: 2, New: 3}, {Kind: 4, Block: 1, New: 1}, {Kind: 4, Block: 1, New: math.MaxUint64},
		makes(1, "b"), makes(257, ""), {Kind: 6, Block: 1}, {Kind: 6, Block: 2}, drop(1), drop(2), {Kind: 8}, {Kind: 9}, {Kind: 1, Block: 1, Cell: 1}, {Kind: 8, Block: 1},
	}
	first := begin(t, makes(1, "a"))
	for _, x := range acts {
		g := first.copy()
		g.do(x)
		for _, y := range acts {
			h := g.copy()
			h.do(y)
			for _, z := range acts {
				h.copy().do(z)
			}
		}
	}
}

// Any rows of acts, on heaps of any blocks, act by act.
func TestRows(t *testing.T) {
	r := rand.New(rand.NewSource(18))
	did := map[string]int{}
	for range 400 {
		g := begin(t)
		for range 120 {
			x := anyAct(r, len(g.k.rows))
			ahead := look(g.h)
			g.ready(x)
			g.do(x)
			did[fmt.Sprint(x.Kind, len(turned(ahead, look(g.h))) > 0, mayBe(x))]++
		}
	}
	for _, s := range []string{"1 false true", "2 true true", "3 true true", "3 false true", "4 true true", "5 true true", "5 false true", "6 false true", "7 true true", "7 false true", "8 true true", "8 false true", "9 true true", "9 false true", "10 false true", "8 false false"} {
		if did[s] < 10 {
			t.Fatal(s, did)
		}
	}
}

// What is handed in is not kept: the bytes of a text may be another's later.
func TestKeepsNothing(t *testing.T) {
	bytes := []byte("ahead of it")
	h := heap.New()
	x := makes(1, unsafe.String(&bytes[0], len(bytes)))
	line := Text(x)
	Do(h, x)
	copy(bytes, "behind that")
	if got := Do(h, api.Act{Kind: api.Words, Block: 1}); got.Text != "ahead of it" || line != "make 1 ahead%20of%20it" {
		t.Fatal(got, line)
	}
}

// P18.2

func TestReady(t *testing.T) {
	lock := api.Act{Kind: api.Lock}
	for _, c := range []struct {
		x    api.Act
		free bool // where the lock is free
		held bool // where it is taken
	}{
		{lock, true, false},
		{api.Act{Kind: api.Unlock}, true, true},
		{api.Act{Kind: api.Await, Block: 2}, true, true},
		{api.Act{Kind: api.Await, Block: 4, Cell: 0}, true, true},
		{api.Act{Kind: api.Await, Block: 4, Cell: 1}, false, false},
		{api.Act{Kind: api.Await, Block: 4, Cell: 2}, true, true},
		{api.Act{Kind: api.Await, Block: 4, Cell: 3}, false, false},
		{api.Act{Kind: api.Await, Block: 4, Cell: math.MaxInt}, false, false},
		{api.Act{Kind: api.Await, Block: 6, Cell: 255}, true, true},
		{api.Act{Kind: api.Await, Block: 6, Cell: 254}, false, false},
		{api.Act{Kind: api.Await, Block: 6, Cell: 256}, false, false},
		{api.Act{Kind: api.Await, Block: 1}, false, false},
		{api.Act{Kind: api.Await, Block: 3}, false, false},
		{api.Act{Kind: api.Await, Block: 5}, false, false},
		{api.Act{Kind: api.Await, Block: 7}, false, false},
		{api.Act{Kind: api.Await, Block: math.MaxUint64}, false, false},
		{api.Act{Kind: api.Await}, false, false},
		{api.Act{Kind: api.Await, Block: 2, Cell: -1}, true, true},
		{api.Act{Kind: api.Await, Block: 4, Cell: 1, New: 1}, true, true},
		{api.Act{Kind: api.Await, Block: 9, Text: "x"}, true, true},
		{api.Act{Kind: api.Lock, Block: 1}, true, true},
		{api.Act{Kind: api.Lock, Cell: 1}, true, true},
		{api.Act{Kind: api.Lock, Cell: -1}, true, true},
		{api.Act{Kind: api.Lock, Old: 1}, true, true},
		{api.Act{Kind: api.Lock, New: 1}, true, true},
		{api.Act{Kind: api.Lock, Text: "x"}, true, true},
		{api.Act{}, true, true},
		{api.Act{Kind: api.Load, Block: 9}, true, true},
		{api.Act{Kind: api.Load, Block: 4, Cell: 1}, true, true},
		{store(9, 0, 1), true, true},
		{api.Act{Kind: api.Swap, Block: 2, Old: 1}, true, true},
		{api.Act{Kind: api.Bump, Block: 3, New: 1}, true, true},
		{makes(257, ""), true, true},
		{api.Act{Kind: api.Words, Block: 5}, true, true},
		{drop(3), true, true},
		{api.Act{Kind: -1}, true, true},
		{api.Act{Kind: 11}, true, true},
	} {
		free, held := begin(t, ground()...), begin(t, append(ground(), lock)...)
		for range 2 {
			if free.ready(c.x) != c.free || held.ready(c.x) != c.held {
				t.Fatalf("%+v: %v, %v", c.x, !c.free, !c.held)
			}
		}
	}
}

// An Await waits for any word but 0, and no longer.
func TestReadyAwait(t *testing.T) {
	x := begin(t, makes(3, ""), makes(3, ""))
	await := api.Act{Kind: api.Await, Block: 2, Cell: 1}
	for _, w := range edgeWords {
		x.do(store(2, 1, w))
		if x.ready(await) != (w != 0) {
			t.Fatal(w)
		}
		for i := range 3 {
			for b := range uint64(4) {
				x.ready(api.Act{Kind: api.Await, Block: b, Cell: i})
			}
		}
	}
	x.do(drop(2))
	if x.ready(await) || x.h.Faults() != 0 {
		t.Fatal(x.h.Faults())
	}
}

func TestReadyLock(t *testing.T) {
	x := begin(t)
	lock := api.Act{Kind: api.Lock}
	for range 3 {
		if !x.ready(lock) || x.do(lock).Word != 1 {
			t.Fatal("free")
		}
		if x.ready(lock) || x.do(lock).Word != 0 || x.ready(lock) {
			t.Fatal("taken")
		}
		x.do(api.Act{Kind: api.Unlock})
	}
}

// P18.3

func TestText(t *testing.T) {
	for _, c := range []struct {
		x    api.Act
		want string
	}{
		{api.Act{}, "none"},
		{api.Act{Kind: 1}, "load 0 0"},
		{api.Act{Kind: 1, Block: 12, Cell: 34}, "load 12 34"},
		{api.Act{Kind: 1, Block: math.MaxUint64, Cell: math.MaxInt}, "load 18446744073709551615 9223372036854775807"},
		{api.Act{Kind: 2, Block: 2, New: 5}, "store 2 0 5"},
		{api.Act{Kind: 2, Block: 1 << 63, Cell: 256, New: 1<<63 - 1}, "store 9223372036854775808 256 9223372036854775807"},
		{api.Act{Kind: 3}, "swap 0 0 0 0"},
		{api.Act{Kind: 3, Block: 1, Cell: 2, Old: 3, New: 4}, "swap 1 2 3 4"},
		{api.Act{Kind: 3, Block: 1, Cell: 2, Old: 1<<63 + 2, New: math.MaxUint64 - 6}, "swap 1 2 9223372036854775810 18446744073709551609"},
		{api.Act{Kind: 4, Block: 5, Cell: 6, New: 7}, "bump 5 6 7"},
		{api.Act{Kind: 4, New: math.MaxUint64}, "bump 0 0 18446744073709551615"},
		{api.Act{Kind: 5}, "make 0 -"},
		{api.Act{Kind: 5, Cell: 3, Text: "value"}, "make 3 value"},
		{api.Act{Kind: 5, Cell: 257, Text: "-"}, "make 257 %2d"},
		{api.Act{Kind: 5, Cell: 1, Text: "a b"}, "make 1 a%20b"},
		{api.Act{Kind: 5, Cell: 1, Text: "\n\"'%"}, "make 1 %0a%22%27%25"},
		{api.Act{Kind: 5, Cell: 1, Text: "ü\xff\x00"}, "make 1 %c3%bc%ff%00"},
		{api.Act{Kind: 5, Text: strings.Repeat("x", 4096)}, "make 0 " + strings.Repeat("x", 4096)},
		{api.Act{Kind: 5, Text: strings.Repeat("\xc3", 4096)}, "make 0 " + strings.Repeat("%c3", 4096)},
		{api.Act{Kind: 5, Text: strings.Repeat("x", 4097)}, ""},
		{api.Act{Kind: 6, Block: 10}, "words 10"},
		{api.Act{Kind: 6, Block: 1 << 63}, "words 9223372036854775808"},
		{api.Act{Kind: 7, Block: 100}, "drop 100"},
		{api.Act{Kind: 7, Block: 10000000000000000000}, "drop 10000000000000000000"},
		{api.Act{Kind: 8}, "lock"},
		{api.Act{Kind: 9}, "unlock"},
		{api.Act{Kind: 10}, "await 0 0"},
		{api.Act{Kind: 10, Block: 1, Cell: 9}, "await 1 9"},
		{api.Act{Kind: 10, Block: 1, Cell: -9}, ""},
		{api.Act{Kind: 8, Block: 1}, ""},
		{api.Act{Kind: 11}, ""},
		{api.Act{Kind: -1}, ""},
	} {
		if got := Text(c.x); got != c.want {
			t.Fatalf("%.200v: %.200q, and not %.200q", c.x, got, c.want)
		}
	}
}

func TestTextOfEachField(t *testing.T) {
	for _, k := range kinds {
		for _, f := range k.fields {
			for _, n := range edgeWords {
				if f != text && (f != cell || n < 1<<63) {
					may(t, set(filled(k), f, n, ""))
				}
			}
		}
	}
	for _, s := range texts() {
		x := makes(1, s)
		may(t, x)
		if back, err := quote.Parse(strings.TrimPrefix(Text(x), "make 1 ")); back != s || err != nil {
			t.Fatalf("%.200q, %v", back, err)
		}
	}
}

// A text is one line: one blank between two words, and each word as it is printed.
func TestTextIsALine(t *testing.T) {
	for _, x := range product() {
		if !mayBe(x) {
			continue
		}
		k, _ := kindOf(x.Kind)
		rows, err := quote.Split(Text(x) + "\n")
		if err != nil || len(rows) != 1 || len(rows[0]) != len(k.fields)+1 || rows[0][0] != k.word {
			t.Fatalf("%+v: %q, %v", x, rows, err)
		}
	}
}

// Two acts that may be and are unlike have unlike texts.
func TestUnlikeTexts(t *testing.T) {
	of := map[string]api.Act{}
	put := func(x api.Act) {
		s := Text(x)
		if other, is := of[s]; is && other != x {
			t.Fatalf("%q: %+v and %+v", s, x, other)
		}
		of[s] = x
	}
	numbers := []uint64{0, 1, 2, 10, 11, 12, 100, 101, 110, 111, 1<<63 - 1, 1 << 63, 10000000000000000001, math.MaxUint64}
	for _, a := range numbers {
		for _, s := range append(texts(), "0", "1", "1 0") {
			put(makes(int(a>>1), s))
		}
		put(api.Act{Kind: 6, Block: a})
		put(drop(a))
		for _, i := range []int{0, 1, 10, 11, 101, math.MaxInt} {
			put(api.Act{Kind: 1, Block: a, Cell: i})
			put(api.Act{Kind: 10, Block: a, Cell: i})
			for _, b := range numbers {
				put(store(a, i, b))
				put(api.Act{Kind: 4, Block: a, Cell: i, New: b})
				for _, c := range numbers {
					put(api.Act{Kind: 3, Block: a, Cell: i, Old: b, New: c})
				}
			}
		}
	}
	for _, n := range []int{0, 8, 9} {
		put(api.Act{Kind: n})
	}
	if len(of) < 10000 {
		t.Fatal(len(of))
	}
}

// P18.4

// mayTurn is what an act may turn, at the most, on a heap that is as it was seen.
func mayTurn(x api.Act, s sight) string {
	switch x.Kind {
	case 2, 3, 4:
		return fmt.Sprint("cell ", x.Block, " ", x.Cell)
	case 5:
		return fmt.Sprint("made ", s.next)
	case 7:
		return fmt.Sprint("dropped ", x.Block)
	case 8, 9:
		return "lock"
	}
	return ""
}

// one holds an act against what it may turn.
func one(t *testing.T, h *heap.Heap, x api.Act) {
	t.Helper()
	ahead := look(h)
	Do(h, x)
	behind := look(h)
	l := turned(ahead, behind)
	if len(l) > 1 || len(l) == 1 && l[0] != mayTurn(x, ahead) || len(l) == 1 && behind.faults != ahead.faults {
		t.Fatalf("%+v: %q", x, l)
	}
	if behind.faults-ahead.faults < 0 || behind.faults-ahead.faults > 1 || behind.faults != ahead.faults && !Right(x) {
		t.Fatalf("%+v: %d faults, and then %d", x, ahead.faults, behind.faults)
	}
	if Looks(x) && len(l) > 0 {
		t.Fatalf("%+v looks: %q", x, l)
	}
}

func TestOne(t *testing.T) {
	for _, g := range grounds(t) {
		for _, x := range product() {
			if mayBe(x) {
				one(t, g.h.Copy(), x)
			}
		}
		for _, k := range kinds {
			for b := range uint64(9) {
				for i := range 4 {
					x := filled(k)
					x.Block, x.Cell = b, i
					one(t, g.h.Copy(), x)
				}
			}
		}
	}
}

func TestOneOfAny(t *testing.T) {
	r := rand.New(rand.NewSource(184))
	for range 200 {
		h := heap.New()
		for range r.Intn(6) {
			h.Make(r.Intn(4), pick(r, someTexts))
		}
		for range 60 {
			one(t, h, anyAct(r, int(look(h).next)))
		}
	}
}
