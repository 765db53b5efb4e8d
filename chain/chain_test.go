package chain

import (
	"fmt"
	"math"
	"math/rand"
	"strings"
	"testing"

	"philtre/act"
	"philtre/api"
	"philtre/drive"
	"philtre/heap"
	"philtre/shelf"
)

// A chain is driven as any routine is.
var _ api.Routine = (*Chain)(nil)

// P24.1: the routine

// Of an empty chain: one act, done, and the zero Value.
func TestExample(t *testing.T) {
	for _, c := range configs {
		for shelf := range c.Shelves {
			for _, epoch := range epochs {
				x := New(c, shelf, epoch)
				if n, is := drive.Alone(control(c), x, 10); n != 1 || !is {
					t.Fatal(c, shelf, epoch, n, is)
				}
				if v, is := x.Result(); v != (Value{}) || !is || x.Passed() != 0 {
					t.Fatal(c, shelf, epoch, v, is, x.Passed())
				}
			}
		}
	}
}

func TestValue(t *testing.T) {
	if v := (Value{true, "text", 5}); !v.Has || v.Text != "text" || v.Block != 5 {
		t.Fatal(v)
	}
}

// By numbers that are written out: the shelves' newest versions stand in 7, 9 and 11, and it is read at 5.
func TestActsWrittenOut(t *testing.T) {
	load := func(block uint64, cell int, word uint64, passed int) pace {
		return pace{api.Act{Kind: 1, Block: block, Cell: cell}, api.Got{Word: word}, passed}
	}
	text := func(block uint64, text string, passed int) pace {
		return pace{api.Act{Kind: 6, Block: block}, api.Got{Text: text}, passed}
	}
	for _, x := range []struct {
		what string
		l    []pace
		want end
	}{
		{"empty", []pace{load(1, 9, 0, 0)}, end{Value{}, 0}},
		{"newest", []pace{load(1, 9, 4, 0), load(4, 0, 5, 0), load(4, 2, 1, 0), text(4, "a", 0)}, end{Value{true, "a", 4}, 0}},
		{"newest has none", []pace{load(1, 9, 4, 0), load(4, 0, 5, 0), load(4, 2, 0, 0)}, end{Value{false, "", 4}, 0}},
		{"second", []pace{load(1, 9, 4, 0), load(4, 0, 6, 0), load(4, 1, 3, 0), load(3, 0, 4, 1), load(3, 2, 1, 1), text(3, "b", 1)}, end{Value{true, "b", 3}, 1}},
		{"second has none", []pace{load(1, 9, 4, 0), load(4, 0, 6, 0), load(4, 1, 3, 0), load(3, 0, 0, 1), load(3, 2, 0, 1)}, end{Value{false, "", 3}, 1}},
		{"no second", []pace{load(1, 9, 4, 0), load(4, 0, 6, 0), load(4, 1, 0, 0)}, end{Value{}, 1}},
		{"third", []pace{load(1, 9, 4, 0), load(4, 0, 9, 0), load(4, 1, 3, 0), load(3, 0, 6, 1), load(3, 1, 2, 1), load(2, 0, 5, 2), load(2, 2, 7, 2), text(2, "", 2)}, end{Value{true, "", 2}, 2}},
		{"no third", []pace{load(1, 9, 4, 0), load(4, 0, 9, 0), load(4, 1, 3, 0), load(3, 0, 6, 1), load(3, 1, 0, 1)}, end{Value{}, 2}},
	} {
		through(t, x.what, New(small, 1, 5), x.l, x.want)
	}
	through(t, "first shelf", New(small, 0, 5), []pace{load(1, 7, 0, 0)}, end{})
	through(t, "last shelf", New(small, 2, 5), []pace{load(1, 11, 2, 0), load(2, 0, 1, 0), load(2, 2, 1, 0), text(2, "c", 0)}, end{Value{true, "c", 2}, 0})
}

// Of each config and shelf: how many are passed, and how it ends then.
func TestActs(t *testing.T) {
	for _, c := range configs {
		for shelf := range c.Shelves {
			for n := range 6 {
				ahead := long(n, 8, 4)
				for _, last := range [][]told{{}, {{7, 3, 0, "x"}}, {{7, 3, 1, "x"}}, {{7, 0, 2, ""}, {6, 0, 1, "older"}}} {
					chain := append(long(n, 8, 4), last...)
					l, want := course(c, shelf, 3, chain)
					if want.passed != len(ahead) {
						t.Fatal("reckoned wrong")
					}
					through(t, fmt.Sprintf("%+v shelf %d: %d, %v", c, shelf, n, last), New(c, shelf, 3), l, want)
				}
			}
		}
	}
}

// Many are passed, and each is counted.
func TestActsOfLongChain(t *testing.T) {
	for _, n := range []int{63, 64, 255, 256, 257, 65535, 65536, 70000} {
		l, want := course(small, 2, 9, append(long(n, 5, 10), told{6, 9, 1, "at last"}))
		x := New(small, 2, 9)
		for i, p := range l {
			if a, more := x.Act(); a != p.act || !more || x.Passed() != p.passed {
				t.Fatal(n, i, a, more, x.Passed())
			}
			x.Take(p.got)
		}
		ended(t, fmt.Sprint(n), x, want)
	}
}

// A version that is just below the epoch, or just it, is read; one that is just above is passed.
func TestEpochs(t *testing.T) {
	for _, epoch := range epochs {
		for _, is := range append([]uint64{epoch - 1, epoch, epoch + 1}, epochs...) {
			for _, older := range []uint64{0, 1, epoch, math.MaxUint64} {
				for _, live := range []uint64{0, 1} {
					what := fmt.Sprintf("%d: %d, %d, %d", epoch, is, older, live)
					l, want := course(small, 1, epoch, []told{{9, is, live, "newer"}, {8, older, live, "older"}})
					if (is <= epoch) != (want.passed == 0) {
						t.Fatal("reckoned wrong")
					}
					through(t, what, New(small, 1, epoch), l, want)
				}
			}
		}
	}
}

// The cells of just the block that was answered: of 1, of many, of the greatest number; the same one twice.
func TestBlocks(t *testing.T) {
	for _, c := range []api.Config{least, small, greatest} {
		for _, a := range blocks {
			for _, b := range blocks {
				for _, d := range blocks {
					what := fmt.Sprintf("%+v %d %d %d", c, a, b, d)
					for _, chain := range [][]told{
						{{a, 5, 1, "x"}},
						{{a, 6, 1, "x"}, {b, 5, 0, "y"}},
						{{a, 6, 1, "x"}, {b, 7, 1, "y"}, {d, 5, 1, "z"}},
						{{a, 6, 1, "x"}, {b, 7, 1, "y"}, {d, 8, 1, "z"}},
					} {
						l, want := course(c, c.Shelves-1, 5, chain)
						through(t, what, New(c, c.Shelves-1, 5), l, want)
					}
				}
			}
		}
	}
}

// Whatever is told of Live but 0 is a value.
func TestLives(t *testing.T) {
	for _, live := range lives {
		for n := range 3 {
			for _, text := range []string{"", "v"} {
				l, want := course(small, 0, 1, append(long(n, 4, 2), told{3, 1, live, text}))
				if want.value.Has != (live != 0) {
					t.Fatal("reckoned wrong")
				}
				through(t, fmt.Sprint(live, n, text), New(small, 0, 1), l, want)
			}
		}
	}
}

// The text is just what was told, byte by byte.
func TestTexts(t *testing.T) {
	for _, c := range []api.Config{least, small, greatest} {
		for i, text := range values() {
			for n := range 3 {
				l, want := course(c, 0, 1, append(long(n, 4, 2), told{3, 1, 1, text}))
				if want.value != (Value{true, text, 3}) {
					t.Fatal("reckoned wrong")
				}
				through(t, fmt.Sprint(c, i, n), New(c, 0, 1), l, want)
			}
		}
	}
}

// A text beside a load's word, and a word beside the words' text, are of no matter.
func TestAnswersOfNoMatter(t *testing.T) {
	texts := []string{"", "v", "x", "\x00", strings.Repeat("t", 5000)}
	words := []uint64{0, 1, 2, 9, math.MaxUint64}
	for _, c := range []api.Config{least, small, greatest} {
		for _, chain := range [][]told{
			{}, {{2, 1, 0, ""}}, {{2, 1, 1, ""}}, {{2, 1, 1, "v"}}, long(3, 7, 2), {{2, 5, 1, "x"}, {3, 1, 1, "y"}}, {{2, 5, 1, "x"}, {3, 1, 0, "y"}},
		} {
			l, want := course(c, 0, 1, chain)
			for _, text := range texts {
				for _, word := range words {
					for i := range l {
						if l[i].act.Kind == api.Load {
							l[i].got.Text = text
						} else {
							l[i].got.Word = word
						}
					}
					through(t, fmt.Sprintf("%+v %v: %.20q %d", c, chain, text, word), New(c, 0, 1), l, want)
				}
			}
		}
	}
}

// Ahead of the end, and behind it.
func TestResult(t *testing.T) {
	x := New(small, 1, 5)
	for i, g := range []api.Got{{Word: 9}, {Word: 6}, {Word: 8}, {Word: 5}, {Word: 1}, {Text: "v"}} {
		if v, is := x.Result(); v != (Value{}) || is {
			t.Fatal(i, v, is)
		}
		x.Take(g)
	}
	for range 5 {
		if v, is := x.Result(); v != (Value{Has: true, Text: "v", Block: 8}) || !is {
			t.Fatal(v, is)
		}
	}
}

// How many were passed, at each act: a version's Epoch is not enough, its Next is.
func TestPassed(t *testing.T) {
	x := New(small, 1, 5)
	for i, p := range []struct {
		word uint64
		want int
	}{{9, 0}, {6, 0}, {9, 1}, {7, 1}, {8, 2}, {math.MaxUint64, 2}, {1, 3}, {6, 3}, {0, 4}} {
		x.Take(api.Got{Word: p.word})
		if n := x.Passed(); n != p.want {
			t.Fatal(i, n, p.want)
		}
	}
	ended(t, "all passed", x, end{Value{}, 4})
}

// Asked never, asked often: what it is asked for is of no matter.
func TestAskedNever(t *testing.T) {
	for _, chain := range [][]told{{}, {{2, 1, 0, ""}}, {{2, 1, 1, "v"}}, long(3, 7, 2), {{2, 5, 1, "x"}, {3, 1, 1, "y"}}, {{2, 5, 1, "x"}, {3, 1, 0, "y"}}} {
		l, want := course(small, 2, 1, chain)
		for at := range len(l) + 1 {
			x := New(small, 2, 1)
			for _, p := range l[:at] {
				x.Take(p.got)
			}
			if at < len(l) {
				going(t, fmt.Sprint(chain, at), x, l[at])
			} else {
				ended(t, fmt.Sprint(chain, at), x, want)
			}
		}
	}
}

// Cap and Pins are of matter for the cells alone; Queue, Watchers and Seed are of none.
func TestConfigs(t *testing.T) {
	for cap := 1; cap <= 32; cap++ {
		for pins := 1; pins <= 8; pins++ {
			for _, shelves := range []int{1, 2, 5, 64} {
				for _, rest := range []api.Config{{}, {Queue: 64, Watchers: 8, Seed: math.MaxUint64}} {
					c := api.Config{Cap: cap, Pins: pins, Shelves: shelves, Queue: rest.Queue, Watchers: rest.Watchers, Seed: rest.Seed}
					for _, shelf := range shelvesOf(c) {
						l, want := course(c, shelf, 4, []told{{7, 5, 1, "x"}, {8, 4, 1, "v"}})
						through(t, fmt.Sprintf("%+v %d", c, shelf), New(c, shelf, 4), l, want)
					}
				}
			}
		}
	}
}

// Each shelf that there is, of each count of them, and none that there is not.
func TestShelves(t *testing.T) {
	for shelves := 1; shelves <= 64; shelves++ {
		c := api.Config{Cap: 2, Pins: 2, Shelves: shelves, Seed: 3}
		for shelf := range shelves {
			l, want := course(c, shelf, 4, []told{{7, 5, 1, "x"}, {8, 4, 0, ""}})
			through(t, fmt.Sprintf("%+v %d", c, shelf), New(c, shelf, 4), l, want)
		}
		for _, shelf := range []int{math.MinInt, math.MinInt + 1, math.MinInt32, -1 << 32, -64, -2, -1, shelves, shelves + 1, shelves + 64, 2 * shelves, 1 << 32, 1<<63 - 4, math.MaxInt/2 + 1, math.MaxInt - 1, math.MaxInt} {
			for _, epoch := range epochs {
				nothing(t, fmt.Sprintf("%+v %d", c, shelf), New(c, shelf, epoch))
			}
			h := control(c)
			was := look(h)
			if n, is := drive.Alone(h, New(c, shelf, 1), 10); n != 0 || !is || look(h) != was {
				t.Fatal(c, shelf, n, is, look(h))
			}
		}
	}
}

func TestNil(t *testing.T) {
	nothing(t, "nil", nil)
	if n, is := drive.Alone(heap.New(), (*Chain)(nil), 10); n != 0 || !is {
		t.Fatal(n, is)
	}
}

// One that New did not make has nothing to do, and never will.
func TestPlain(t *testing.T) {
	var plain Chain
	nothing(t, "var", &plain)
	nothing(t, "literal", &Chain{})
	nothing(t, "new", new(Chain))
	row := make([]Chain, 3)
	for i := range row {
		nothing(t, "of a row", &row[i])
	}
	h := control(small)
	was := look(h)
	if n, is := drive.Alone(h, &Chain{}, 10); n != 0 || !is || look(h) != was {
		t.Fatal(n, is, look(h))
	}
}

// Of a config that may not be, one number of which is beyond its ends, nothing is done; of one at the ends something is.
func TestConfigsThatMayNotBe(t *testing.T) {
	for _, from := range append([]api.Config{{Cap: 16, Pins: 4, Shelves: 32, Queue: 32, Watchers: 4, Seed: 9}}, configs...) {
		for _, f := range fields {
			for _, n := range []int{math.MinInt, math.MinInt32, -1 << 32, -64, -2, -1, f.least - 1, f.most + 1, f.most + 2, 2*f.most + 1, 256, 1 << 16, 1 << 32, 1<<32 + 1, math.MaxInt - 1, math.MaxInt} {
				if n >= f.least && n <= f.most {
					continue
				}
				c := from
				*f.of(&c) = n
				for _, shelf := range []int{-1, 0, 1, from.Shelves - 1, from.Shelves, n - 1, n} {
					nothing(t, fmt.Sprintf("%+v %d", c, shelf), New(c, shelf, 1))
					h := control(small)
					was := look(h)
					if acts, is := drive.Alone(h, New(c, shelf, 1), 10); acts != 0 || !is || look(h) != was {
						t.Fatal(c, acts, is, look(h))
					}
				}
			}
			for _, n := range []int{f.least, f.least + 1, f.most - 1, f.most} {
				c := from
				*f.of(&c) = n
				for _, shelf := range shelvesOf(c) {
					l, want := course(c, shelf, 3, []told{{7, 3, 1, "x"}})
					through(t, fmt.Sprintf("%+v", c), New(c, shelf, 3), l, want)
				}
			}
		}
	}
	nothing(t, "zero", New(api.Config{}, 0, 0))
	nothing(t, "all beyond", New(api.Config{Cap: 33, Pins: 9, Shelves: 65, Queue: 65, Watchers: 9}, 3, 3))
}

// Two routines share nothing, in whatever order they go on, of the same things or of others.
func TestApart(t *testing.T) {
	for _, second := range []struct {
		c     api.Config
		shelf int
		epoch uint64
	}{{small, 1, 5}, {small, 2, 5}, {small, 1, 7}, {least, 0, 5}, {greatest, 63, 0}} {
		la, wa := course(small, 1, 5, []told{{11, 9, 1, "x"}, {12, 6, 1, "y"}, {13, 5, 1, "z"}})
		lb, wb := course(second.c, second.shelf, second.epoch, []told{{21, 8, 1, "t"}, {22, 0, 1, "u"}})
		ls, wants := [2][]pace{la, lb}, [2]end{wa, wb}
		for order := range 1 << 14 {
			xs := [2]*Chain{New(small, 1, 5), New(second.c, second.shelf, second.epoch)}
			var at [2]int
			for pick := range 14 {
				if who := order >> pick & 1; at[who] < len(ls[who]) {
					xs[who].Take(ls[who][at[who]].got)
					at[who]++
				}
				for i, x := range xs {
					v, is := x.Result()
					if at[i] == len(ls[i]) {
						if v != wants[i].value || !is || x.Passed() != wants[i].passed {
							t.Fatal(order, pick, i, v, is)
						}
					} else if a, more := x.Act(); a != ls[i][at[i]].act || !more || is || x.Passed() != ls[i][at[i]].passed {
						t.Fatal(order, pick, i, a, more, v, is)
					}
				}
			}
		}
	}
}

// Each act may be, looks, and needs no waiting for.
func TestActsMayBe(t *testing.T) {
	for _, c := range configs {
		for _, b := range blocks {
			for _, epoch := range []uint64{0, 5} {
				x := New(c, c.Shelves-1, 4)
				for n := 0; n < 30; n++ {
					a, more := x.Act()
					if !more {
						break
					}
					if !act.Right(a) || !act.Looks(a) || !act.Ready(heap.New(), a) || act.Text(a) == "" {
						t.Fatalf("%+v", a)
					}
					x.Take([2]api.Got{{Word: b, Text: "x"}, {Word: epoch}}[n%2])
				}
			}
		}
	}
}

func TestActsOfAny(t *testing.T) {
	r := rand.New(rand.NewSource(241))
	for range 20000 {
		c := anyConfig(r)
		shelf, epoch := r.Intn(c.Shelves), anyWord(r)
		var chain []told
		for range r.Intn(8) {
			v := told{anyWord(r) | 1<<r.Intn(64), anyWord(r) | epoch, anyWord(r), anyText(r, 3)}
			switch r.Intn(8) {
			case 0:
				v.epoch = epoch
			case 1:
				v.epoch, v.live = epoch, 0
			case 2:
				v.epoch = epoch & anyWord(r)
			}
			chain = append(chain, v)
		}
		l, want := course(c, shelf, epoch, chain)
		for i := range l {
			if l[i].act.Kind == api.Load {
				l[i].got.Text = anyText(r, 3)
			} else {
				l[i].got.Word = anyWord(r)
			}
		}
		through(t, fmt.Sprintf("%+v %d %d %v", c, shelf, epoch, chain), New(c, shelf, epoch), l, want)
	}
}

// P24.2: reads

// Chains of no, one, some and many versions, with values and without, on one shelf and on several.
func TestReads(t *testing.T) {
	for _, c := range configs {
		s := open(c)
		for i, shelf := range shelvesOf(c) {
			for n := range []int{0, 1, 4}[i] {
				s.lay(shelf, s.newest(shelf)+uint64(1+n%3), n%3 != 2, fmt.Sprint("value ", n))
			}
		}
		s.checkAll(t)
	}
}

func TestReadsOfLongChain(t *testing.T) {
	s := open(small)
	for n := range 100 {
		s.lay(1, uint64(2*n), n%5 != 3, strings.Repeat("v", n%33))
	}
	s.checkAll(t)
}

// All chains of up to five epochs out of five, with values and without.
func TestReadsOfAllShortChains(t *testing.T) {
	for which := range 1 << 5 {
		for has := range 1 << 5 {
			s := open(least)
			for i := range 5 {
				if which>>i&1 == 1 {
					s.lay(0, uint64(i), has>>i&1 == 1, fmt.Sprint(i))
				}
			}
			s.checkAll(t)
		}
	}
}

// At the greatest epochs too.
func TestReadsOfGreatEpochs(t *testing.T) {
	s := open(small)
	all := []uint64{0, 1, 1 << 31, 1 << 32, math.MaxInt64, 1 << 63, math.MaxUint64 - 1, math.MaxUint64}
	for i, epoch := range all {
		s.lay(2, epoch, i%3 != 1, fmt.Sprint(epoch))
	}
	for _, epoch := range all {
		s.check(t, 2, epoch)
		s.check(t, 2, epoch-1)
		s.check(t, 2, epoch+1)
	}
	if n := s.heap.Faults(); n != 0 {
		t.Fatal(n)
	}
}

// A version that says that there is no value is read as any other: what is older is not looked at.
func TestReadsNone(t *testing.T) {
	s := open(small)
	s.lay(0, 1, true, "a")
	s.lay(0, 2, false, "")
	s.lay(0, 4, true, "")
	for i, want := range []Value{{}, {true, "a", 2}, {false, "", 3}, {false, "", 3}, {true, "", 4}, {true, "", 4}} {
		if v := s.check(t, 0, uint64(i)); v != want {
			t.Fatal(i, v, want)
		}
	}
}

// Older versions than the one that is read may be gone: that is no fault.
func TestReadsWhereOlderAreGone(t *testing.T) {
	s := open(small)
	for n := range 9 {
		s.lay(1, uint64(n+1), n%4 != 3, fmt.Sprint(n))
	}
	all := s.chains[1]
	for i := len(all) - 1; i > 0; i-- {
		s.heap.Drop(all[i].block)
		for epoch := all[i-1].epoch; epoch <= 10; epoch++ {
			s.check(t, 1, epoch)
		}
	}
	if n := s.heap.Faults(); n != 0 {
		t.Fatal(n)
	}
}

// Versions as the routine of layer 22 makes them.
func TestReadsWhatIsMade(t *testing.T) {
	for _, c := range configs {
		s := open(c)
		for n, value := range values() {
			if len(value) > 4096 {
				continue // no block may have so long a text
			}
			for _, shelfOf := range shelvesOf(c) {
				var next uint64
				if len(s.chains[shelfOf]) > 0 {
					next = s.chains[shelfOf][0].block
				}
				change := api.Change{Key: "k", Has: n%3 != 1}
				if change.Has {
					change.Value = value
				}
				epoch := s.newest(shelfOf) + 2
				x := shelf.New(epoch, next, change)
				drive.Alone(s.heap, x, 10)
				b, _ := x.Result()
				s.heap.Store(1, cellOf(c, shelfOf), b)
				s.chains[shelfOf] = append([]version{{b, epoch, change.Has, change.Value}}, s.chains[shelfOf]...)
			}
		}
		for _, shelfOf := range shelvesOf(c) {
			for epoch := range s.newest(shelfOf) + 2 {
				s.check(t, shelfOf, epoch)
			}
		}
		if n := s.heap.Faults(); n != 0 {
			t.Fatal(n)
		}
	}
}

// The other cells, and other blocks, are of no matter, nor is the lock.
func TestReadsBesideOthers(t *testing.T) {
	for _, c := range configs {
		s := open(c)
		for i := range 2 * c.Shelves {
			s.lay(i%c.Shelves, uint64(1+i/c.Shelves), i%3 != 0, fmt.Sprint(i))
			b := s.heap.Make(3, "key")
			s.heap.Store(1, cellOf(c, i%c.Shelves)-1, b)
			s.heap.Store(1, i%(3+c.Pins+c.Cap), b)
			if i%3 == 0 {
				s.heap.Drop(s.heap.Make(0, "gone"))
			}
			if i%2 == 0 {
				s.heap.Lock()
			} else {
				s.heap.Unlock()
			}
		}
		for shelf := range min(c.Shelves, 8) {
			for epoch := range uint64(4) {
				s.check(t, shelf, epoch)
			}
		}
		s.heap.Lock()
		s.check(t, 0, 1)
		if n := s.heap.Faults(); n != 0 {
			t.Fatal(n)
		}
	}
}

// Several side by side on one heap, in any order: each reads what it reads alone.
func TestReadsSideBySide(t *testing.T) {
	r := rand.New(rand.NewSource(242))
	for range 300 {
		c := anyConfig(r)
		c.Shelves = 1 + r.Intn(3)
		s := open(c)
		for range r.Intn(20) {
			shelf := r.Intn(c.Shelves)
			s.lay(shelf, s.newest(shelf)+uint64(1+r.Intn(3)), r.Intn(3) > 0, anyText(r, 5))
		}
		type read struct {
			shelf int
			epoch uint64
		}
		var reads []read
		var xs []api.Routine
		var picks []int
		for i := range 8 {
			one := read{r.Intn(c.Shelves), uint64(r.Intn(20))}
			reads, xs = append(reads, one), append(xs, New(c, one.shelf, one.epoch))
			for range 50 {
				picks = append(picks, i)
			}
		}
		r.Shuffle(len(picks), func(i, j int) { picks[i], picks[j] = picks[j], picks[i] })
		was := look(s.heap)
		drive.Run(s.heap, xs, picks)
		for i, one := range reads {
			want, _, _ := s.want(one.shelf, one.epoch)
			ended(t, fmt.Sprint(c, i, one), xs[i].(*Chain), want)
		}
		if now := look(s.heap); now != was {
			t.Fatalf("the heap is %s, and was %s", now, was)
		}
	}
}

// What is laid while it reads, by newer epochs, changes nothing of what it reads.
func TestReadsMeanwhile(t *testing.T) {
	r := rand.New(rand.NewSource(243))
	for range 500 {
		s := open(small)
		for range r.Intn(5) {
			s.lay(1, s.newest(1)+uint64(1+r.Intn(2)), r.Intn(3) > 0, anyText(r, 5))
		}
		epoch := s.newest(1)
		want, _, _ := s.want(1, epoch)
		x := New(small, 1, epoch)
		for more := true; more; {
			if r.Intn(3) == 0 && len(s.chains[1]) < 40 {
				s.lay(1, s.newest(1)+uint64(1+r.Intn(2)), r.Intn(3) > 0, anyText(r, 5))
			}
			_, more = drive.Next(s.heap, x)
		}
		if v, is := x.Result(); v != want.value || !is {
			t.Fatal(v, is, want)
		}
	}
	// What it loads is what stands there then: of a head that was loaded already, the newer ones are not passed.
	s := open(small)
	s.lay(1, 1, true, "a")
	x := New(small, 1, 1)
	drive.Next(s.heap, x)
	s.lay(1, 2, true, "b")
	if n, is := drive.Alone(s.heap, x, 10); n != 3 || !is {
		t.Fatal(n, is)
	}
	ended(t, "loaded already", x, end{Value{true, "a", 2}, 0})
	x = New(small, 1, 1)
	s.lay(1, 3, true, "c")
	if n, is := drive.Alone(s.heap, x, 10); n != 8 || !is {
		t.Fatal(n, is)
	}
	ended(t, "not loaded yet", x, end{Value{true, "a", 2}, 2})
}

// Any heaps.
func TestReadsAny(t *testing.T) {
	r := rand.New(rand.NewSource(244))
	for range 300 {
		c := anyConfig(r)
		s := open(c)
		for range r.Intn(40) {
			shelf := r.Intn(min(c.Shelves, 1+r.Intn(5)))
			s.lay(shelf, s.newest(shelf)+uint64(1+r.Intn(3)), r.Intn(3) > 0, anyText(r, 32))
		}
		for range 20 {
			s.check(t, r.Intn(min(c.Shelves, 5)), uint64(r.Intn(30)))
		}
	}
}

// No heap: each load is answered nothing, and so the chain is empty.
func TestReadsOnNoHeap(t *testing.T) {
	for _, c := range configs {
		x := New(c, c.Shelves-1, 7)
		if n, is := drive.Alone(nil, x, 10); n != 1 || !is {
			t.Fatal(n, is)
		}
		ended(t, "no heap", x, end{})
	}
}

// A heap without the version that the head tells of: its cells are answered 0, which is not above any epoch, and so it has no value there; the faults are the heap's to count.
func TestReadsOfNoVersion(t *testing.T) {
	h := control(small)
	h.Store(1, cellOf(small, 0), 99)
	x := New(small, 0, 0)
	if n, is := drive.Alone(h, x, 10); n != 3 || !is || h.Faults() != 2 {
		t.Fatal(n, is, h.Faults())
	}
	ended(t, "no version", x, end{Value{Block: 99}, 0})
}
