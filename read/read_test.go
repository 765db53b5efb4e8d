package read

import (
	"fmt"
	"math"
	"math/big"
	"math/rand"
	"slices"
	"strings"
	"testing"

	"philtre/act"
	"philtre/api"
	"philtre/drive"
	"philtre/heap"
	"philtre/shelf"
)

// A read is driven as any routine is.
var _ api.Routine = (*Read)(nil)

// P26.1: the routine

// Of a key that nobody has put: pin (three acts), one load, and one store.
func TestExample(t *testing.T) {
	s := open(small)
	x := New(small, 0, "a")
	var kinds []int
	for d := range drive.Steps(s.heap, x, 10) {
		kinds = append(kinds, d.Act.Kind)
	}
	if !slices.Equal(kinds, []int{api.Load, api.Swap, api.Load, api.Load, api.Store}) {
		t.Fatal(kinds)
	}
	ended(t, "example", x, end{mark: 3})
	for _, c := range configs {
		for _, thread := range threads {
			for _, key := range texts() {
				x := New(c, thread, key)
				if n, is := drive.Alone(open(c).heap, x, 10); n != 5 || !is {
					t.Fatal(c, thread, key, n, is)
				}
				said(t, fmt.Sprint(c, thread), x, end{mark: 3})
			}
		}
	}
}

// By numbers that are written out: of three pins, which stand in 3, 4 and 5, the thread 4 begins at the second one; a's way at the seed 0 is 2, 0, 1, the shelves' keys stand in 8, 10 and 12, and their newest versions in 9, 11 and 13.
func TestActsWrittenOut(t *testing.T) {
	load := func(block uint64, cell int, w uint64) pace {
		return pace{api.Act{Kind: 1, Block: block, Cell: cell}, api.Got{Word: w}}
	}
	words := func(block uint64, text string) pace {
		return pace{api.Act{Kind: 6, Block: block}, api.Got{Text: text}}
	}
	swap := func(cell int, old uint64) pace {
		return pace{api.Act{Kind: 3, Block: 1, Cell: cell, Old: 0, New: 8}, api.Got{Word: old}}
	}
	store := func(cell int, w uint64) pace {
		return pace{act: api.Act{Kind: 2, Block: 1, Cell: cell, New: w}}
	}
	pin := []pace{load(1, 0, 7), swap(4, 0), load(1, 0, 7)}
	here := []pace{load(1, 12, 30), words(30, "a")}
	for _, x := range []struct {
		what string
		l    [][]pace
		want end
	}{
		{"nobody has put it", [][]pace{pin, {load(1, 12, 0), store(4, 0)}}, end{mark: 3}},
		{"an empty chain", [][]pace{pin, here, {load(1, 13, 0), store(4, 0)}}, end{mark: 3}},
		{"the first version", [][]pace{pin, here, {load(1, 13, 40), load(40, 0, 7), load(40, 2, 1), words(40, "v"), store(4, 0)}}, end{0, true, "v", 3}},
		{"the empty value", [][]pace{pin, here, {load(1, 13, 40), load(40, 0, 0), load(40, 2, 1), words(40, ""), store(4, 0)}}, end{0, true, "", 3}},
		{"no value", [][]pace{pin, here, {load(1, 13, 40), load(40, 0, 7), load(40, 2, 0), store(4, 0)}}, end{mark: 3}},
		{"the second version", [][]pace{pin, here, {load(1, 13, 40), load(40, 0, 8), load(40, 1, 41), load(41, 0, 2), load(41, 2, 1), words(41, "v"), store(4, 0)}}, end{0, true, "v", 3}},
		{"no version so old", [][]pace{pin, here, {load(1, 13, 40), load(40, 0, 8), load(40, 1, 41), load(41, 0, 9), load(41, 1, 0), store(4, 0)}}, end{mark: 3}},
		{"the second shelf", [][]pace{pin, {load(1, 12, 30), words(30, "b"), load(1, 8, 31), words(31, "a"), load(1, 9, 40), load(40, 0, 7), load(40, 2, 1), words(40, "v"), store(4, 0)}}, end{0, true, "v", 3}},
		{"the third shelf", [][]pace{pin, {load(1, 12, 30), words(30, "b"), load(1, 8, 31), words(31, ""), load(1, 10, 32), words(32, "a"), load(1, 11, 40), load(40, 0, 7), load(40, 2, 1), words(40, "v"), store(4, 0)}}, end{0, true, "v", 3}},
		{"free behind one", [][]pace{pin, {load(1, 12, 30), words(30, "b"), load(1, 8, 0), store(4, 0)}}, end{mark: 3}},
		{"all taken", [][]pace{pin, {load(1, 12, 30), words(30, "b"), load(1, 8, 31), words(31, "c"), load(1, 10, 32), words(32, "d"), store(4, 0)}}, end{mark: 3}},
		{"the second pin", [][]pace{{load(1, 0, 7), swap(4, 1), swap(5, 0), load(1, 0, 7)}, {load(1, 12, 0), store(5, 0)}}, end{mark: 4}},
		{"the third pin", [][]pace{{load(1, 0, 7), swap(4, 1), swap(5, 8), swap(3, 0), load(1, 0, 7)}, here, {load(1, 13, 40), load(40, 0, 7), load(40, 2, 1), words(40, "v"), store(3, 0)}}, end{0, true, "v", 5}},
		{"another epoch", [][]pace{{load(1, 0, 7), swap(4, 0), load(1, 0, 9), store(4, 10), load(1, 0, 9)}, here, {load(1, 13, 40), load(40, 0, 9), load(40, 2, 1), words(40, "v"), store(4, 0)}}, end{0, true, "v", 5}},
		{"passed at another epoch", [][]pace{{load(1, 0, 7), swap(4, 0), load(1, 0, 9), store(4, 10), load(1, 0, 9)}, here, {load(1, 13, 40), load(40, 0, 10), load(40, 1, 0), store(4, 0)}}, end{mark: 5}},
		{"twice another one", [][]pace{{load(1, 0, 7), swap(4, 3), swap(5, 0), load(1, 0, 8), store(5, 9), load(1, 0, 6), store(5, 7), load(1, 0, 6)}, here, {load(1, 13, 40), load(40, 0, 7), load(40, 1, 39), load(39, 0, 6), load(39, 2, 1), words(39, "v"), store(5, 0)}}, end{0, true, "v", 8}},
		{"too many", [][]pace{{load(1, 0, 7), swap(4, 1), swap(5, 8), swap(3, math.MaxUint64)}}, end{code: 11}},
	} {
		through(t, x.what, New(small, 4, "a"), slices.Concat(x.l...), x.want)
	}
}

// The Told, field by field.
func TestTold(t *testing.T) {
	x := New(least, 0, "k")
	for _, g := range []api.Got{{Word: 4}, {}, {Word: 4}, {Word: 9}, {Text: "k"}, {Word: 8}, {Word: 4}, {Word: 1}, {Text: "v"}, {}} {
		x.Take(g)
	}
	told, is := x.Result()
	if told.Reply.Code != api.OK || !told.Reply.Took || told.Reply.Value != "v" || told.Mark != 3 || !is {
		t.Fatalf("%+v", told)
	}
	if told.Epoch != 0 || told.Reply.Id != (api.Id{}) || told.Reply.N != 0 || told.Reply.Pairs != nil || told.Reply.Changes != nil {
		t.Fatalf("%+v", told)
	}
	x = New(least, 0, "k")
	for _, word := range []uint64{4, 5} {
		x.Take(api.Got{Word: word})
	}
	told, is = x.Result()
	if told.Reply.Code != api.TooManyReaders || told.Reply.Took || told.Reply.Value != "" || told.Mark != 0 || !is {
		t.Fatalf("%+v", told)
	}
	if told.Epoch != 0 || told.Reply.Id != (api.Id{}) || told.Reply.N != 0 || told.Reply.Pairs != nil || told.Reply.Changes != nil {
		t.Fatalf("%+v", told)
	}
}

// What is handed out first is of no matter to what is handed out next.
func TestToldIsNew(t *testing.T) {
	x := New(least, 0, "k")
	for _, g := range []api.Got{{Word: 4}, {}, {Word: 4}, {Word: 9}, {Text: "k"}, {Word: 8}, {Word: 4}, {Word: 1}, {Text: "v"}, {}} {
		x.Take(g)
	}
	for range 3 {
		told, _ := x.Result()
		told.Reply.Pairs = append(told.Reply.Pairs, api.Pair{Key: "k"})
		told.Reply.Changes = append(told.Reply.Changes, api.Change{Key: "k"})
		told.Reply.Value, told.Reply.Took, told.Reply.Code, told.Mark = "x", false, 3, 99
		said(t, "again", x, end{0, true, "v", 3})
	}
}

// All pins are taken, by whatever number: it is done at once, and nothing was stored.
func TestTooManyReaders(t *testing.T) {
	for _, c := range configs {
		for _, thread := range threads {
			for _, epoch := range epochs {
				for _, word := range []uint64{1, 2, 77, epoch + 1, epoch, epoch + 2, 1 << 63, math.MaxUint64} {
					if word == 0 {
						continue // a pin that is free
					}
					is := tale{epoch: epoch, swaps: all(c.Pins, word)}
					if follows(t, c, thread, "k", is) != tooMany {
						t.Fatal("reckoned wrong")
					}
				}
			}
		}
	}
}

// tellings are what there may be behind a pin: keys along the way of these many shelves, and a chain, at an epoch.
func tellings(shelves int, key string, epoch uint64) []tale {
	other := keyed{5, key + "x"}
	here := keyed{6, key}
	value, none, newer := laid{7, epoch, 1, "v"}, laid{8, epoch, 0, ""}, laid{9, epoch + 1, 1, "newer"}
	l := []tale{{}, {keys: all(shelves, other)}}
	for _, n := range []int{0, 1, shelves / 2, shelves - 1} {
		if n >= shelves {
			continue
		}
		keys := append(all(n, other), here)
		l = append(l, tale{keys: all(n, other)})
		for _, chain := range [][]laid{nil, {value}, {none}, {newer, value}, {newer, none}, {newer, newer}, {none, value}, append(all(40, newer), value)} {
			l = append(l, tale{keys: keys, chain: chain})
		}
	}
	return l
}

// Each pin that may be had, with each way to go on behind that.
func TestActs(t *testing.T) {
	for _, c := range configs {
		for _, thread := range []int{0, 1, c.Pins - 1, c.Pins, 12, math.MaxInt} {
			for n := range c.Pins + 1 {
				for _, is := range tellings(c.Shelves, "k", 7) {
					is.epoch, is.swaps = 7, all(n, uint64(3))
					want := follows(t, c, thread, "k", is)
					if n == c.Pins && want != tooMany || n < c.Pins && want.mark != n+3 {
						t.Fatal("reckoned wrong")
					}
				}
			}
		}
	}
}

// All ways in which pins may be taken.
func TestActsOfAllPins(t *testing.T) {
	for pins := 1; pins <= 8; pins++ {
		c := api.Config{Cap: 3, Pins: pins, Shelves: 2}
		for thread := range 2 * pins {
			for taken := range 1 << pins {
				var swaps []uint64
				for i := range pins {
					swaps = append(swaps, uint64(taken>>i&1*(i+2)))
				}
				follows(t, c, thread, "key", tale{epoch: 4, swaps: swaps, keys: []keyed{{6, "key"}}, chain: []laid{{7, 4, 1, "v"}}})
			}
		}
	}
}

// The epoch goes on, once and many times, comes back, and is any number: the chain is read at the one that was stored last.
func TestActsAgain(t *testing.T) {
	for _, c := range []api.Config{least, small, greatest} {
		for _, swaps := range [][]uint64{nil, {4}} {
			if len(swaps) >= c.Pins {
				continue
			}
			for _, first := range epochs {
				for _, again := range [][]uint64{nil, {first}, {first + 1}, {first - 1}, {first + 1, first}, {first + 1, first + 2}, {first + 2, first + 2}, {first - 1, first + 1, first}, {math.MaxUint64}, {0, math.MaxUint64, 0}, {first + 5, first + 4, first + 3, first + 2}} {
					// The greatest ones are the same as the first, where that is the greatest number.
					is := tale{epoch: first, swaps: swaps, again: again}
					_, _, pinned := is.pinning(c, 1)
					for _, next := range tellings(c.Shelves, "k", pinned)[:6] {
						is.keys, is.chain = next.keys, next.chain
						follows(t, c, 1, "k", is)
					}
					for _, epoch := range []uint64{first, first + 1, first - 1, pinned - 1, pinned, pinned + 1, 0, math.MaxUint64} {
						is.keys, is.chain = []keyed{{6, "k"}}, []laid{{9, epoch, 1, "first"}, {8, pinned, 1, "second"}}
						want := follows(t, c, 1, "k", is)
						if epoch <= pinned && want.value != "first" || epoch > pinned && want.value != "second" {
							t.Fatal("reckoned wrong")
						}
					}
				}
			}
		}
	}
}

// However often the epoch goes on, it is gone after, and each act of that counts.
func TestActsAgainManyTimes(t *testing.T) {
	for _, n := range []int{1, 2, 10, 100, 1000} {
		for _, step := range []uint64{1, 2, math.MaxUint64, 1 << 63} {
			var again []uint64
			for i := range uint64(n) {
				again = append(again, 9+(i+1)*step)
			}
			is := tale{epoch: 9, swaps: []uint64{5}, again: again, keys: []keyed{{6, "k"}}, chain: []laid{{7, 0, 1, "v"}}}
			if want := follows(t, small, 2, "k", is); want != (end{0, true, "v", 4 + 2*n}) {
				t.Fatal("reckoned wrong", want)
			}
		}
	}
}

// Each shelf of the way, of each count of shelves: the key is Here there, or Free is, or behind all of them it is Taken.
func TestKeysAlongTheWay(t *testing.T) {
	for shelves := 1; shelves <= 64; shelves++ {
		c := api.Config{Cap: 2, Pins: 2, Shelves: shelves, Seed: seeds[shelves%len(seeds)]}
		for n := range shelves + 1 {
			ahead := all(n, keyed{5, "other"})
			follows(t, c, 1, "key", tale{epoch: 3, keys: ahead})
			is := tale{epoch: 3, keys: append(ahead, keyed{6, "key"}), chain: []laid{{7, 4, 1, "newer"}, {8, 3, 1, "v"}}}
			if want := follows(t, c, 1, "key", is); want.took != (n < shelves) {
				t.Fatal("reckoned wrong")
			}
		}
	}
}

// Keys and values of all kinds.
func TestTexts(t *testing.T) {
	for _, c := range []api.Config{least, small, greatest} {
		for _, key := range texts() {
			for _, value := range texts() {
				follows(t, c, 2, key, tale{epoch: 1, keys: []keyed{{5, key}}, chain: []laid{{7, 1, 1, value}}})
				follows(t, c, 2, key, tale{epoch: 1, keys: []keyed{{5, key + "\x00"}, {6, key}}, chain: []laid{{9, 2, 1, key}, {7, 1, 1, value}}})
				// What another shelf has is not it.
				follows(t, c, 2, key, tale{epoch: 1, keys: []keyed{{5, value}}, chain: []laid{{7, 1, 1, "v"}}})
			}
		}
	}
}

// The shelves are those of the key's way at the config's seed.
func TestSeeds(t *testing.T) {
	for _, c := range configs {
		for _, c.Seed = range seeds {
			for _, key := range []string{"", "k", "key", "\xff\x00"} {
				for _, is := range tellings(c.Shelves, key, 2) {
					is.epoch = 2
					follows(t, c, 5, key, is)
				}
			}
		}
	}
}

// Epochs, blocks and Live words at their ends, together.
func TestChains(t *testing.T) {
	for _, epoch := range epochs {
		for _, is := range []uint64{epoch - 1, epoch, epoch + 1, 0, 1, math.MaxUint64} {
			for _, live := range lives {
				for _, block := range blocks {
					follows(t, small, 0, "k", tale{epoch: epoch, keys: []keyed{{block, "k"}}, chain: []laid{{block, is, live, "first"}, {3, epoch, live, "second"}}})
				}
			}
		}
	}
	for _, n := range []int{63, 64, 255, 256, 1000} {
		follows(t, small, 0, "k", tale{epoch: 4, keys: []keyed{{2, "k"}}, chain: append(all(n, laid{7, 5, 1, "newer"}), laid{8, 4, 1, "v"})})
	}
}

// A text beside a word, a word beside a text, and what is answered to a store, are of no matter.
func TestAnswersOfNoMatter(t *testing.T) {
	for _, c := range []api.Config{least, small, greatest} {
		for i, is := range tellings(c.Shelves, "k", 8) {
			for _, is.swaps = range [][]uint64{nil, {1}, all(c.Pins, uint64(9))} {
				for _, is.again = range [][]uint64{nil, {8}, {9, 8}} {
					is.epoch = 7
					l, want := is.course(c, 1, "k")
					for _, text := range []string{"", "k", "v", "\x00", strings.Repeat("t", 5000)} {
						for _, word := range []uint64{0, 1, 7, 8, 9, math.MaxUint64} {
							for i := range l {
								if l[i].act.Kind != api.Words {
									l[i].got.Text = text
								}
								if l[i].act.Kind == api.Words || l[i].act.Kind == api.Store {
									l[i].got.Word = word
								}
							}
							through(t, fmt.Sprint(i, text, word), New(c, 1, "k"), l, want)
						}
					}
				}
			}
		}
	}
}

// Ahead of the end, and behind it; when all but the last store is done there is none yet.
func TestResult(t *testing.T) {
	x := New(small, 0, "k")
	for _, g := range []api.Got{{Word: 5}, {Word: 1}, {}, {Word: 6}, {}, {Word: 6}, {Word: 9}, {Text: "k"}, {Word: 8}, {Word: 6}, {Word: 1}, {Text: "v"}} {
		unsaid(t, "ahead", x)
		x.Take(g)
	}
	going(t, "all but the last store", 12, x, stored(4, 0))
	x.Take(api.Got{})
	for range 5 {
		said(t, "behind", x, end{0, true, "v", 6})
	}
	x = New(small, 0, "k")
	for range 4 {
		unsaid(t, "ahead of too many", x)
		x.Take(api.Got{Word: 5})
	}
	for range 5 {
		said(t, "behind too many", x, tooMany)
	}
}

// Asked never, asked often: what it is asked for is of no matter.
func TestAskedNever(t *testing.T) {
	for i, is := range tellings(3, "k", 8) {
		for _, is.swaps = range [][]uint64{nil, {1}, {8, 7}, all(3, uint64(3))} {
			for _, is.again = range [][]uint64{nil, {8}, {9, 8}} {
				is.epoch = 7
				l, want := is.course(small, 1, "k")
				for at := range len(l) + 1 {
					x := New(small, 1, "k")
					for _, p := range l[:at] {
						x.Take(p.got)
					}
					if at < len(l) {
						going(t, fmt.Sprint(i), at, x, l[at].act)
					} else {
						ended(t, fmt.Sprint(i, at), x, want)
					}
				}
			}
		}
	}
}

// Cap and Pins are of matter for the cells, Queue and Watchers of none.
func TestConfigs(t *testing.T) {
	for cap := 1; cap <= 32; cap++ {
		for pins := 1; pins <= 8; pins++ {
			for _, shelves := range []int{1, 2, 5, 64} {
				for _, rest := range []api.Config{{}, {Queue: 64, Watchers: 8, Seed: math.MaxUint64}, {Queue: 1, Watchers: 1, Seed: 1}} {
					c := api.Config{Cap: cap, Pins: pins, Shelves: shelves, Queue: rest.Queue, Watchers: rest.Watchers, Seed: rest.Seed}
					follows(t, c, 11, "k", tale{epoch: 3, swaps: []uint64{1}, again: []uint64{4}, keys: []keyed{{2, "j"}, {3, "k"}}, chain: []laid{{5, 5, 1, "x"}, {6, 4, 1, "v"}}})
				}
			}
		}
	}
}

func TestNil(t *testing.T) {
	nothing(t, "nil", nil)
	if n, is := drive.Alone(heap.New(), (*Read)(nil), 10); n != 0 || !is {
		t.Fatal(n, is)
	}
}

// idle holds that a routine does nothing on a heap.
func idle(t *testing.T, what string, x *Read) {
	t.Helper()
	s := open(small)
	s.lay("k", 0, true, "v")
	was := look(s.heap)
	if n, is := drive.Alone(s.heap, x, 10); n != 0 || !is || look(s.heap) != was {
		t.Fatal(what, n, is, look(s.heap))
	}
}

// One that New did not make has nothing to do, and never will.
func TestPlain(t *testing.T) {
	var plain Read
	nothing(t, "var", &plain)
	nothing(t, "literal", &Read{})
	nothing(t, "new", new(Read))
	row := make([]Read, 3)
	for i := range row {
		nothing(t, "of a row", &row[i])
	}
	idle(t, "plain", &Read{})
}

// Of a thread below 0 nothing is done.
func TestThreadsThatAreNone(t *testing.T) {
	for _, c := range configs {
		for _, thread := range []int{-1, -2, -c.Pins, -c.Pins - 1, -8, -64, -1 << 31, -1 << 32, math.MinInt + 1, math.MinInt} {
			for _, key := range []string{"", "k"} {
				nothing(t, fmt.Sprint(c, thread), New(c, thread, key))
				idle(t, fmt.Sprint(c, thread), New(c, thread, key))
			}
		}
	}
}

// Of a config that may not be, one number of which is beyond its ends, nothing is done; of one at the ends something is.
func TestConfigsThatMayNotBe(t *testing.T) {
	for _, from := range append([]api.Config{{Cap: 16, Pins: 4, Shelves: 32, Queue: 32, Watchers: 4, Seed: 9}}, configs...) {
		for _, c := range beyond(from) {
			for _, thread := range []int{0, 1, 5, math.MaxInt, -1} {
				nothing(t, fmt.Sprintf("%+v", c), New(c, thread, "k"))
			}
			idle(t, fmt.Sprintf("%+v", c), New(c, 0, "k"))
		}
		for _, f := range fields {
			for _, n := range []int{f.least, f.least + 1, f.most - 1, f.most} {
				c := from
				*f.of(&c) = n
				follows(t, c, 5, "k", tale{epoch: 3, keys: []keyed{{2, "k"}}, chain: []laid{{6, 3, 1, "v"}}})
			}
		}
	}
	nothing(t, "zero", New(api.Config{}, 0, "k"))
	nothing(t, "all beyond", New(api.Config{Cap: 33, Pins: 9, Shelves: 65, Queue: 65, Watchers: 9}, 0, "k"))
}

// Two routines share nothing, in whatever order they go on, of the same things or of others.
func TestApart(t *testing.T) {
	first := tale{epoch: 7, again: []uint64{8}, keys: []keyed{{5, "k"}}, chain: []laid{{9, 8, 1, "first"}}}
	second := tale{epoch: 3, swaps: []uint64{2}, keys: []keyed{{6, "j"}}, chain: []laid{{4, 3, 1, "second"}}}
	for _, other := range []struct {
		c      api.Config
		thread int
		key    string
	}{{small, 1, "k"}, {small, 2, "j"}, {least, 0, "j"}, {greatest, 5, "j"}} {
		for order := range 1 << 13 {
			la, wa := first.course(small, 1, "k")
			lb, wb := second.course(other.c, other.thread, other.key)
			xs := [2]*Read{New(small, 1, "k"), New(other.c, other.thread, other.key)}
			ls, wants := [2][]pace{la, lb}, [2]end{wa, wb}
			var at [2]int
			for pick := 0; at[0] < len(la) || at[1] < len(lb); pick++ {
				who := order >> (pick % 13) & 1
				if at[who] == len(ls[who]) {
					who = 1 - who
				}
				if a, more := xs[who].Act(); a != ls[who][at[who]].act || !more {
					t.Fatal(order, pick, who, a, more)
				}
				xs[who].Take(ls[who][at[who]].got)
				at[who]++
				for i, x := range xs {
					if at[i] == len(ls[i]) {
						said(t, fmt.Sprint(order, pick, i), x, wants[i])
					}
				}
			}
		}
	}
}

// What is done with a config once it was handed in is of no matter.
func TestConfigApart(t *testing.T) {
	c := small
	x := New(c, 1, "k")
	is := tale{epoch: 3, swaps: []uint64{1}, keys: []keyed{{2, "j"}, {3, "k"}}, chain: []laid{{6, 3, 1, "v"}}}
	l, want := is.course(c, 1, "k")
	c = greatest
	through(t, "a config that was turned", x, l, want)
	if c != greatest {
		t.Fatal(c)
	}
}

// Each act may be, and needs no waiting for.
func TestActsMayBe(t *testing.T) {
	for _, c := range configs {
		for _, epoch := range epochs {
			for _, is := range tellings(c.Shelves, "k", epoch) {
				is.epoch, is.again = epoch+1, []uint64{epoch}
				l, _ := is.course(c, 3, "k")
				x := New(c, 3, "k")
				for _, p := range l {
					a, more := x.Act()
					if !more || !act.Right(a) || !act.Ready(nil, a) || act.Looks(a) != (a.Kind == api.Load || a.Kind == api.Words) {
						t.Fatalf("%+v", a)
					}
					x.Take(p.got)
				}
			}
		}
	}
}

func TestActsOfAny(t *testing.T) {
	r := rand.New(rand.NewSource(261))
	for range 30000 {
		c, thread, key := anyConfig(r), int(anyWord(r)>>1), anyText(r, 3)
		is := tale{epoch: anyWord(r)}
		for range r.Intn(c.Pins + 1) {
			is.swaps = append(is.swaps, anyWord(r)|1<<r.Intn(64))
		}
		for range r.Intn(4) {
			is.again = append(is.again, anyWord(r))
		}
		for range r.Intn(min(c.Shelves, 6) + 1) {
			if is.keys = append(is.keys, keyed{anyWord(r) | 1<<r.Intn(64), anyText(r, 3)}); r.Intn(3) == 0 {
				is.keys[len(is.keys)-1].text = key
			}
		}
		for range r.Intn(5) {
			is.chain = append(is.chain, laid{anyWord(r) | 1<<r.Intn(64), anyWord(r), uint64(r.Intn(3)), anyText(r, 3)})
		}
		l, want := is.course(c, thread, key)
		for i := range l {
			if l[i].act.Kind != api.Words {
				l[i].got.Text = anyText(r, 2)
			}
			if l[i].act.Kind == api.Words || l[i].act.Kind == api.Store {
				l[i].got.Word = anyWord(r)
			}
		}
		through(t, fmt.Sprintf("%+v %d %q %.300v", c, thread, key, is), New(c, thread, key), l, want)
	}
}

// P26.2: alone

// By words that are written out: a=1 from 1 on, a=2 and b=1 from 2 on, no a from 3 on, and a= from 5 on.
func TestAloneWrittenOut(t *testing.T) {
	s := open(small)
	s.lay("a", 1, true, "1")
	s.lay("a", 2, true, "2")
	s.lay("b", 2, true, "1")
	s.lay("a", 3, false, "")
	s.lay("a", 5, true, "")
	for _, x := range []struct {
		epoch uint64
		a, b  end
	}{
		{0, end{mark: 3}, end{mark: 3}},
		{1, end{0, true, "1", 3}, end{mark: 3}},
		{2, end{0, true, "2", 3}, end{0, true, "1", 3}},
		{3, end{mark: 3}, end{0, true, "1", 3}},
		{4, end{mark: 3}, end{0, true, "1", 3}},
		{5, end{0, true, "", 3}, end{0, true, "1", 3}},
		{6, end{0, true, "", 3}, end{0, true, "1", 3}},
	} {
		s.reach(x.epoch)
		for thread := range 4 {
			if a, b, none := s.check(t, thread, "a"), s.check(t, thread, "b"), s.check(t, thread, "c"); a != x.a || b != x.b || none != (end{mark: 3}) {
				t.Fatal(x.epoch, thread, a, b, none)
			}
		}
	}
	if n := s.heap.Faults(); n != 0 {
		t.Fatal(n)
	}
}

// fill lays versions of keys, round by round, at rising epochs, with values and without.
func (s *store) fill(keys []string, rounds int) {
	var epoch uint64
	for n := range rounds {
		for i, key := range keys {
			if (n+i)%3 == 0 {
				continue
			}
			if (n+i)%4 != 1 {
				epoch++
			}
			s.lay(key, epoch, (n+2*i)%5 != 0, fmt.Sprint(strings.Repeat("v", i%7), n))
		}
	}
}

// On shelves of all counts, with room and without, at each epoch.
func TestAlone(t *testing.T) {
	for _, c := range configs {
		keys := []string{"a", "", "b", "\x00", "key", "sixteen bytes..k", "\xff", "kez"}
		s := open(c)
		s.fill(keys, 6)
		s.checkAll(t, 3, append(keys, "never put", "c", "k", "ke"))
	}
}

// Where all shelves are taken, others' keys are not there.
func TestAloneOnFullShelves(t *testing.T) {
	for _, c := range configs {
		s := open(c)
		var keys []string
		for i := range c.Shelves + 3 {
			keys = append(keys, fmt.Sprint("key ", i))
		}
		s.fill(keys, 3)
		if s.lay("one more", 1, true, "x") {
			t.Fatal("there is room")
		}
		for epoch := uint64(0); epoch <= s.newest()+1; epoch += s.newest()/4 + 1 {
			s.reach(epoch)
			for _, key := range append(keys, "one more") {
				s.check(t, 1, key)
			}
		}
		if n := s.heap.Faults(); n != 0 {
			t.Fatal(n)
		}
	}
}

// With any of the pins taken by others, from each thread on; with all of them there are too many readers.
func TestAloneWithPinsTaken(t *testing.T) {
	for pins := 1; pins <= 8; pins++ {
		s := open(api.Config{Cap: 2, Pins: pins, Shelves: 2})
		s.lay("a", 1, true, "1")
		s.lay("a", 3, true, "3")
		s.reach(2)
		for thread := range 2*pins + 1 {
			for which := range 1 << pins {
				s.taken(which)
				is := s.check(t, thread, "a")
				if all := which == 1<<pins-1; all != (is == tooMany) || !all && is.value != "1" {
					t.Fatal(pins, thread, which, is)
				}
				s.check(t, thread, "b")
			}
		}
		if n := s.heap.Faults(); n != 0 {
			t.Fatal(n)
		}
	}
}

// At the greatest epochs too.
func TestAloneAtGreatEpochs(t *testing.T) {
	s := open(small)
	for i, epoch := range epochs {
		s.lay("k", epoch, i%3 != 1, fmt.Sprint(epoch))
	}
	for _, epoch := range epochs {
		for _, near := range []uint64{epoch - 1, epoch, epoch + 1} {
			s.reach(near)
			s.check(t, 1, "k")
			s.check(t, 1, "j")
		}
	}
	if n := s.heap.Faults(); n != 0 {
		t.Fatal(n)
	}
}

// Versions as the routine of layer 22 makes them, of keys and values of all kinds.
func TestAloneOfWhatIsMade(t *testing.T) {
	for _, c := range configs {
		s := open(c)
		for n, value := range texts() {
			key := texts()[n%5]
			on := s.shelf(key)
			if on < 0 || len(value) > 4096 {
				continue // no block may have so long a text
			}
			var next uint64
			if len(s.chains[on]) > 0 {
				next = s.chains[on][0].block
			}
			change := api.Change{Key: key, Has: n%3 != 1}
			if change.Has {
				change.Value = value
			}
			x := shelf.New(uint64(n), next, change)
			drive.Alone(s.heap, x, 10)
			b, _ := x.Result()
			s.heap.Store(1, headCell(c, on), b)
			s.chains[on] = append([]version{{b, uint64(n), change.Has, change.Value}}, s.chains[on]...)
			s.put(key)
		}
		s.checkAll(t, 2, texts()[:6])
	}
}

// The other cells, other blocks, and the lock, are of no matter.
func TestAloneBesideOthers(t *testing.T) {
	for _, c := range configs {
		s := open(c)
		s.lay("k", 1, true, "v")
		s.lay("k", 2, false, "")
		s.heap.Drop(s.heap.Make(2, "gone"))
		s.heap.Make(2, "record")
		for i := range c.Cap {
			s.heap.Store(1, 3+c.Pins+i, uint64(i))
		}
		s.heap.Lock()
		s.checkAll(t, 7, []string{"k", "j"})
		s.heap.Unlock()
		s.checkAll(t, 7, []string{"k", "j"})
	}
}

// Older versions than the one that is read may be gone, and so may the keys of shelves that are not on the way there.
func TestAloneWhereOlderAreGone(t *testing.T) {
	s := open(small)
	for n := range 6 {
		s.lay("k", uint64(n+1), n%3 != 2, fmt.Sprint(n))
	}
	l := s.chains[s.shelves["k"]]
	for i := len(l) - 1; i > 0; i-- {
		s.heap.Drop(l[i].block)
		for epoch := l[i-1].epoch; epoch <= 7; epoch++ {
			s.reach(epoch)
			s.check(t, 0, "k")
		}
	}
	if n := s.heap.Faults(); n != 0 {
		t.Fatal(n)
	}
}

// Any heaps.
func TestAloneAny(t *testing.T) {
	r := rand.New(rand.NewSource(262))
	for range 300 {
		c := anyConfig(r)
		s := open(c)
		var keys []string
		for range 1 + r.Intn(8) {
			keys = append(keys, anyText(r, 2))
		}
		var epoch uint64
		for range r.Intn(40) {
			epoch += uint64(r.Intn(3))
			s.lay(keys[r.Intn(len(keys))], epoch, r.Intn(3) > 0, anyText(r, 32))
		}
		for range 20 {
			s.reach(uint64(r.Intn(int(epoch) + 2)))
			s.taken(r.Intn(1<<c.Pins) & r.Intn(1<<c.Pins))
			s.check(t, r.Intn(20), keys[r.Intn(len(keys))])
			s.check(t, r.Intn(20), anyText(r, 2))
		}
		if n := s.heap.Faults(); n != 0 {
			t.Fatal(n)
		}
	}
}

// No heap: each act is answered nothing, and so no shelf has a key.
func TestAloneOnNoHeap(t *testing.T) {
	for _, c := range configs {
		x := New(c, 5, "k")
		if n, is := drive.Alone(nil, x, 10); n != 5 || !is {
			t.Fatal(n, is)
		}
		ended(t, "no heap", x, end{mark: 3})
	}
}

// P26.3: Most

func TestMostWrittenOut(t *testing.T) {
	for _, x := range []struct {
		c     api.Config
		swaps int
		want  int
	}{
		{least, 0, 12}, {least, 1, 16}, {least, 2, 20}, {least, 1000, 4012},
		{small, 0, 18}, {small, 1, 22}, {small, 2, 26}, {small, 65536, 262162},
		{greatest, 0, 145}, {greatest, 1, 149}, {greatest, 2, 153}, {greatest, 3, 157},
		{api.Config{Cap: 32, Pins: 1, Shelves: 64}, 0, 138}, {api.Config{Cap: 32, Pins: 8, Shelves: 1}, 5, 39},
		{least, -1, 12}, {small, -2, 18}, {greatest, math.MinInt, 145}, {greatest, math.MinInt + 1, 145}, {least, -1 << 62, 12},
	} {
		if n := Most(x.c, x.swaps); n != x.want {
			t.Fatalf("%+v %d: %d, and not %d", x.c, x.swaps, n, x.want)
		}
	}
}

// Of each count of pins and shelves, and of any other numbers, against numbers without an end; what is above all numbers there are is the greatest one.
func TestMost(t *testing.T) {
	swaps := []int{math.MinInt, -1 << 32, -5, -4, -3, -2, -1, 0, 1, 2, 3, 4, 5, 63, 64, 65535, 65536, 1 << 31, 1 << 32, 1 << 60, 1<<61 - 1, 1 << 61, 1<<61 + 1, 1 << 62, 1<<62 + 1, 3 << 61, math.MaxInt - 1, math.MaxInt}
	for i := range 100 {
		swaps = append(swaps, 1<<61-i)
	}
	for pins := 1; pins <= 8; pins++ {
		for shelves := 1; shelves <= 64; shelves++ {
			for _, rest := range []api.Config{{Cap: 1}, {Cap: 32, Queue: 64, Watchers: 8, Seed: math.MaxUint64}, {Cap: 7, Queue: 2, Watchers: 1, Seed: 1}} {
				c := rest
				c.Pins, c.Shelves = pins, shelves
				for _, n := range swaps {
					want := new(big.Int).Mul(big.NewInt(int64(max(n, 0))), big.NewInt(4))
					want.Add(want, big.NewInt(int64(1+pins+2+2*shelves+6)))
					if !want.IsInt64() {
						want.SetInt64(math.MaxInt64)
					}
					if most := Most(c, n); int64(most) != want.Int64() {
						t.Fatalf("%+v %d: %d, and not %s", c, n, most, want)
					}
				}
			}
		}
	}
}

func TestMostOfConfigsThatMayNotBe(t *testing.T) {
	for _, from := range configs {
		for _, c := range beyond(from) {
			for _, swaps := range []int{math.MinInt, -1, 0, 1, 2, 1000, math.MaxInt} {
				if n := Most(c, swaps); n != 0 {
					t.Fatalf("%+v %d: %d", c, swaps, n)
				}
			}
		}
	}
	if n := Most(api.Config{}, 3); n != 0 {
		t.Fatal(n)
	}
}

// A read that takes just as many acts as are told: the last pin, the last shelf, and one version that is newer, whose epoch was not stored yet.
func TestMostIsReached(t *testing.T) {
	for _, c := range configs {
		s := open(c)
		key := "k"
		way := wayOf(c, key)
		for i := 0; len(s.keys) < c.Shelves-1; i++ {
			if other := fmt.Sprint(i); s.shelf(other) != way[c.Shelves-1] {
				s.put(other)
			}
		}
		s.lay(key, 5, true, "v")
		s.lay(key, 6, true, "newer")
		if s.shelves[key] != way[c.Shelves-1] {
			t.Fatal("reckoned wrong")
		}
		s.reach(5)
		s.taken(1<<c.Pins - 1)
		s.heap.Store(1, pinCell(c.Pins-1), 0)
		x := New(c, c.Pins, key)
		if n, is := drive.Alone(s.heap, x, 1000); n != Most(c, 0) || !is {
			t.Fatal(c, n, is, Most(c, 0))
		}
		said(t, fmt.Sprint(c), x, end{0, true, "v", c.Pins + 2})
	}
}

// others lays a version of each of this many other keys.
func (s *store) others(n int) {
	for i := range n {
		s.lay(fmt.Sprint("other ", i), 1, true, "other")
	}
}

// ready is a store on which other keys were put, and then k with these many versions, up to the epoch that is now; those pins are taken whose digit is 1.
func ready(c api.Config, pins, others, versions int) *store {
	s := open(c)
	s.others(others)
	for i := range versions {
		s.lay("k", uint64(2+i), i%3 != 1, fmt.Sprint("version ", i))
	}
	s.reach(uint64(1 + versions))
	s.taken(pins)
	return s
}

// At each place the epoch goes on, once, some and many times, and each time a version of it was laid ahead of that.
func TestMostWhileTheEpochGoesOn(t *testing.T) {
	for _, c := range []api.Config{least, small, {Cap: 1, Pins: 2, Shelves: 2, Seed: 1}, {Cap: 3, Pins: 4, Shelves: 8, Seed: 77}} {
		for _, versions := range []int{0, 1, 3} {
			for _, times := range []int{1, 2, 3, 20} {
				for place := 0; ; place++ {
					s := ready(c, 1<<(c.Pins-1)-1, c.Shelves-1, versions)
					x := s.chase(0, "k")
					for range place {
						x.step(t)
					}
					if x.acts < place {
						break
					}
					for i := range times {
						s.lay("k", s.epoch()+1, i%2 == 0, fmt.Sprint("later ", i))
						x.advance()
					}
					x.finish(t, fmt.Sprint(c, versions, times, place))
				}
			}
		}
	}
}

// It goes on at any of the first thirteen places, in all ways.
func TestMostWhileTheEpochGoesOnAgain(t *testing.T) {
	const places = 13
	for which := range 1 << places {
		s := ready(least, 0, 0, 2)
		x := s.chase(1, "k")
		for place := range places {
			if which>>place&1 == 1 {
				s.lay("k", s.epoch()+1, place%3 > 0, fmt.Sprint("at ", place))
				x.advance()
			}
			x.step(t)
		}
		x.finish(t, fmt.Sprint(which))
	}
}

// A version that was laid, and whose epoch is stored only later, or never: at each two places.
func TestMostWhileAVersionIsAhead(t *testing.T) {
	for _, c := range []api.Config{least, small, {Cap: 3, Pins: 4, Shelves: 8, Seed: 77}} {
		for _, versions := range []int{0, 2} {
			for laidAt := range 30 {
				for storedAt := laidAt; storedAt <= 30; storedAt++ {
					s := ready(c, 0, 1, versions)
					x := s.chase(0, "k")
					for place := range 30 {
						if place == laidAt {
							s.lay("k", s.epoch()+1, true, "later")
						}
						if place == storedAt {
							x.advance()
						}
						x.step(t)
					}
					x.finish(t, fmt.Sprint(c, versions, laidAt, storedAt))
				}
			}
		}
	}
}

// The epoch goes on at each act, for a while, with a version each time or without.
func TestMostAtEachAct(t *testing.T) {
	for _, c := range configs {
		for _, versions := range []bool{true, false} {
			for times := range 60 {
				s := ready(c, 0, c.Shelves/2, 2)
				x := s.chase(3, "k")
				for i := range times {
					if versions {
						s.lay("k", s.epoch()+1, i%2 == 0, fmt.Sprint(i))
					}
					x.advance()
					x.step(t)
				}
				x.finish(t, fmt.Sprint(c, versions, times))
			}
		}
	}
}

// In any order, with other keys that are laid too, and some of the pins taken by others.
func TestMostInAnyOrder(t *testing.T) {
	r := rand.New(rand.NewSource(263))
	for range 3000 {
		c := anyConfig(r)
		c.Shelves = 1 + r.Intn(5)
		s := ready(c, r.Intn(1<<c.Pins)&^(1<<r.Intn(c.Pins)), r.Intn(c.Shelves), r.Intn(4))
		x := s.chase(r.Intn(20), []string{"k", "other 0", "never"}[r.Intn(3)])
		calm, ahead := 1+r.Intn(5), false
		for range 80 {
			switch {
			case r.Intn(calm) > 0:
				x.step(t)
			case ahead:
				x.advance()
				ahead = false
			default:
				for _, key := range []string{"k", "other 0"} {
					if r.Intn(2) == 0 {
						s.lay(key, s.epoch()+1, r.Intn(3) > 0, anyText(r, 5))
					}
				}
				ahead = true
			}
		}
		x.finish(t, fmt.Sprintf("%+v", c))
	}
}

// Several side by side, as many as there are pins, and more: none has another one's pin, each reads its key at the epoch that it has pinned, and who is told that there are too many did no more than try each pin.
func TestMostSideBySide(t *testing.T) {
	r := rand.New(rand.NewSource(264))
	refused := 0
	for range 1500 {
		c := anyConfig(r)
		c.Pins, c.Shelves = 1+r.Intn(4), 1+r.Intn(4)
		s := ready(c, 0, r.Intn(c.Shelves), 1+r.Intn(3))
		var xs []*chase
		for range 1 + r.Intn(c.Pins+2) {
			xs = append(xs, s.chase(r.Intn(20), []string{"k", "other 0", "never"}[r.Intn(3)]))
		}
		for range 200 {
			if r.Intn(6) == 0 {
				s.lay("k", s.epoch()+1, r.Intn(3) > 0, anyText(r, 5))
				s.reach(s.epoch() + 1)
				for _, x := range xs {
					x.changes++
				}
				continue
			}
			xs[r.Intn(len(xs))].step(t)
			held := map[int]bool{}
			for _, x := range xs {
				if _, is := x.read.Result(); x.pin < 0 || is {
					continue
				}
				if held[x.pin] || s.cell(x.pin) != x.pinned+1 {
					t.Fatal(c, x.pin, s.cell(x.pin), x.pinned)
				}
				held[x.pin] = true
			}
		}
		// Those that are not done go on one by one, as long as any of them has something to do.
		for more := true; more; {
			more = false
			for _, x := range xs {
				more = x.step(t) || more
			}
		}
		for _, x := range xs {
			if x.pin >= 0 {
				x.finish(t, fmt.Sprintf("%+v", c))
				continue
			}
			refused++
			said(t, fmt.Sprintf("%+v", c), x.read, tooMany)
			if x.acts != c.Pins+1 {
				t.Fatal(c, x.acts)
			}
		}
		for pin := range c.Pins {
			if s.cell(pinCell(pin)) != 0 {
				t.Fatal(c, look(s.heap))
			}
		}
	}
	if refused == 0 {
		t.Fatal("nobody was refused")
	}
}

// Whoever has the lock, it reads, and takes none.
func TestMostTakesNoLock(t *testing.T) {
	for _, locked := range []bool{false, true} {
		s := ready(small, 0, 1, 2)
		if locked {
			s.heap.Lock()
		}
		x := New(small, 0, "k")
		for d := range drive.Steps(s.heap, x, 100) {
			if d.Act.Kind == api.Lock || d.Act.Kind == api.Unlock || s.heap.Locked() != locked {
				t.Fatal(d)
			}
		}
		if told, is := x.Result(); told.Reply.Code != 0 || !is {
			t.Fatal(told, is)
		}
	}
}
