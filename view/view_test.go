package view

import (
	"fmt"
	"math"
	"math/rand"
	"slices"
	"strings"
	"testing"

	"philtre/act"
	"philtre/api"
	"philtre/drive"
	"philtre/heap"
)

// A view is driven as any routine is.
var _ api.Routine = (*View)(nil)

// P27.1: the routine

// Where no shelf has a key: pin (three acts), a load for each shelf, and one store.
func TestExample(t *testing.T) {
	var kinds []int
	x := New(small, 0)
	for d := range drive.Steps(open(small).heap, x, 100) {
		kinds = append(kinds, d.Act.Kind)
	}
	if !slices.Equal(kinds, []int{api.Load, api.Swap, api.Load, api.Load, api.Load, api.Load, api.Store}) {
		t.Fatal(kinds)
	}
	ended(t, "example", x, end{mark: 3})
	for _, c := range configs {
		for _, thread := range threads {
			x := New(c, thread)
			if n, is := drive.Alone(open(c).heap, x, 100); n != 4+c.Shelves || !is {
				t.Fatal(c, thread, n, is)
			}
			said(t, fmt.Sprint(c, thread), x, end{mark: 3})
		}
	}
}

// By numbers that are written out: of three pins, which stand in 3, 4 and 5, the thread 4 begins at the second one; the shelves' keys stand in 8, 10 and 12, and their newest versions in 9, 11 and 13.
func TestActsWrittenOut(t *testing.T) {
	load := func(block uint64, cell int, w uint64) pace {
		return pace{api.Act{Kind: 1, Block: block, Cell: cell}, api.Got{Word: w}}
	}
	words := func(block uint64, text string) pace {
		return pace{api.Act{Kind: 6, Block: block}, api.Got{Text: text}}
	}
	swap := func(cell int, old uint64) pace {
		return pace{api.Act{Kind: 3, Block: 1, Cell: cell, Old: 0, New: 8}, api.Got{Word: old}}
	}
	store := func(cell int, w uint64) pace {
		return pace{act: api.Act{Kind: 2, Block: 1, Cell: cell, New: w}}
	}
	pin := []pace{load(1, 0, 7), swap(4, 0), load(1, 0, 7)}
	b := []pace{load(1, 8, 30), words(30, "b"), load(1, 9, 40), load(40, 0, 7), load(40, 2, 1), words(40, "2")}
	a := []pace{load(1, 10, 31), words(31, "a"), load(1, 11, 41), load(41, 0, 8), load(41, 1, 42), load(42, 0, 0), load(42, 2, 1), words(42, "")}
	for _, x := range []struct {
		what string
		l    [][]pace
		want end
	}{
		{"no key", [][]pace{pin, {load(1, 8, 0), load(1, 10, 0), load(1, 12, 0), store(4, 0)}}, end{0, "", 3}},
		{"the first shelf", [][]pace{pin, b, {load(1, 10, 0), load(1, 12, 0), store(4, 0)}}, end{0, `"b"="2"`, 3}},
		{"the second shelf", [][]pace{pin, {load(1, 8, 0)}, a, {load(1, 12, 0), store(4, 0)}}, end{0, `"a"=""`, 3}},
		{"the third shelf", [][]pace{pin, {load(1, 8, 0), load(1, 10, 0), load(1, 12, 32), words(32, "c"), load(1, 13, 43), load(43, 0, 6), load(43, 2, 9), words(43, "3"), store(4, 0)}}, end{0, `"c"="3"`, 3}},
		{"two shelves, whose keys fall", [][]pace{pin, b, a, {load(1, 12, 0), store(4, 0)}}, end{0, `"a"="" "b"="2"`, 3}},
		{"all shelves", [][]pace{pin, b, a, {load(1, 12, 32), words(32, ""), load(1, 13, 43), load(43, 0, 7), load(43, 2, 1), words(43, "v"), store(4, 0)}}, end{0, `""="v" "a"="" "b"="2"`, 3}},
		{"an empty chain", [][]pace{pin, b, {load(1, 10, 31), words(31, "a"), load(1, 11, 0), load(1, 12, 0), store(4, 0)}}, end{0, `"b"="2"`, 3}},
		{"no value", [][]pace{pin, {load(1, 8, 30), words(30, "b"), load(1, 9, 40), load(40, 0, 7), load(40, 2, 0)}, a, {load(1, 12, 0), store(4, 0)}}, end{0, `"a"=""`, 3}},
		{"no version so old", [][]pace{pin, {load(1, 8, 30), words(30, "b"), load(1, 9, 40), load(40, 0, 9), load(40, 1, 39), load(39, 0, 8), load(39, 1, 0)}, a, {load(1, 12, 0), store(4, 0)}}, end{0, `"a"=""`, 3}},
		{"one key twice", [][]pace{pin, b, {load(1, 10, 31), words(31, "b"), load(1, 11, 41), load(41, 0, 1), load(41, 2, 1), words(41, "1"), load(1, 12, 0), store(4, 0)}}, end{0, `"b"="1"`, 3}},
		{"one key twice, the later one with no value", [][]pace{pin, b, {load(1, 10, 31), words(31, "b"), load(1, 11, 41), load(41, 0, 1), load(41, 2, 0), load(1, 12, 0), store(4, 0)}}, end{0, `"b"="2"`, 3}},
		{"the second pin", [][]pace{{load(1, 0, 7), swap(4, 1), swap(5, 0), load(1, 0, 7)}, b, {load(1, 10, 0), load(1, 12, 0), store(5, 0)}}, end{0, `"b"="2"`, 4}},
		{"the third pin", [][]pace{{load(1, 0, 7), swap(4, 1), swap(5, 8), swap(3, 0), load(1, 0, 7)}, {load(1, 8, 0), load(1, 10, 0), load(1, 12, 0), store(3, 0)}}, end{0, "", 5}},
		{"another epoch", [][]pace{{load(1, 0, 7), swap(4, 0), load(1, 0, 8), store(4, 9), load(1, 0, 8)}, b, {load(1, 10, 31), words(31, "a"), load(1, 11, 41), load(41, 0, 8), load(41, 2, 1), words(41, "new"), load(1, 12, 0), store(4, 0)}}, end{0, `"a"="new" "b"="2"`, 5}},
		{"twice another one", [][]pace{{load(1, 0, 7), swap(4, 3), swap(5, 0), load(1, 0, 8), store(5, 9), load(1, 0, 6), store(5, 7), load(1, 0, 6)}, {load(1, 8, 0)}, {load(1, 10, 31), words(31, "a"), load(1, 11, 41), load(41, 0, 7), load(41, 1, 40), load(40, 0, 6), load(40, 2, 1), words(40, "old"), load(1, 12, 0), store(5, 0)}}, end{0, `"a"="old"`, 8}},
		{"too many", [][]pace{{load(1, 0, 7), swap(4, 1), swap(5, 8), swap(3, math.MaxUint64)}}, end{code: 11}},
	} {
		through(t, x.what, New(small, 4), slices.Concat(x.l...), x.want)
	}
}

// twoKeys is what a view of the config small is answered, which has the second pin behind four acts, and reads b=2 on the first shelf and a=1 on the last one.
var twoKeys = []api.Got{
	{Word: 4}, {Word: 9}, {}, {Word: 4},
	{Word: 7}, {Text: "b"}, {Word: 8}, {Word: 4}, {Word: 1}, {Text: "2"},
	{},
	{Word: 9}, {Text: "a"}, {Word: 6}, {}, {Word: 1}, {Text: "1"},
	{},
}

// The Told, field by field.
func TestTold(t *testing.T) {
	x := New(small, 0)
	for _, g := range twoKeys {
		x.Take(g)
	}
	told, is := x.Result()
	if told.Reply.Code != api.OK || !slices.Equal(told.Reply.Pairs, []api.Pair{{Key: "a", Value: "1"}, {Key: "b", Value: "2"}}) || told.Mark != 4 || !is {
		t.Fatalf("%+v", told)
	}
	if told.Epoch != 0 || told.Reply.Id != (api.Id{}) || told.Reply.Took || told.Reply.Value != "" || told.Reply.N != 0 || len(told.Reply.Changes) != 0 {
		t.Fatalf("%+v", told)
	}
	x = New(least, 0)
	for _, word := range []uint64{4, 5} {
		x.Take(api.Got{Word: word})
	}
	told, is = x.Result()
	if told.Reply.Code != api.TooManyReaders || len(told.Reply.Pairs) != 0 || told.Mark != 0 || !is {
		t.Fatalf("%+v", told)
	}
	if told.Epoch != 0 || told.Reply.Id != (api.Id{}) || told.Reply.Took || told.Reply.Value != "" || told.Reply.N != 0 || len(told.Reply.Changes) != 0 {
		t.Fatalf("%+v", told)
	}
}

// What is done to what was handed out is of no matter to what else is handed out, ahead of it or behind.
func TestToldIsNew(t *testing.T) {
	x := New(small, 0)
	for _, g := range twoKeys {
		x.Take(g)
	}
	first, _ := x.Result()
	for range 3 {
		told, _ := x.Result()
		more := append(told.Reply.Pairs, api.Pair{Key: "more"})
		for i := range more[:cap(more)] {
			more[:cap(more)][i] = api.Pair{Key: "z", Value: "turned"}
		}
		clear(told.Reply.Pairs)
		told.Reply.Changes = append(told.Reply.Changes, api.Change{Key: "k"})
		told.Reply.Took, told.Reply.Value, told.Reply.Code, told.Mark = true, "x", 3, 99
		said(t, "again", x, end{0, `"a"="1" "b"="2"`, 4})
		if written(first.Reply.Pairs) != `"a"="1" "b"="2"` {
			t.Fatal(first)
		}
		x.Take(api.Got{Word: 3, Text: "k"})
	}
}

// All pins are taken, by whatever number: it is done at once, and nothing was stored.
func TestTooManyReaders(t *testing.T) {
	for _, c := range configs {
		for _, thread := range threads {
			for _, epoch := range epochs {
				for _, word := range []uint64{1, 2, 77, epoch + 1, epoch, epoch + 2, 1 << 63, math.MaxUint64} {
					if word == 0 {
						continue // a pin that is free
					}
					is := tale{epoch: epoch, swaps: all(c.Pins, word), shelves: all(c.Shelves, holding("k", "v"))}
					if follows(t, c, thread, is) != tooMany {
						t.Fatal("reckoned wrong")
					}
				}
			}
		}
	}
}

// chains are what there may be in a chain that is read at an epoch.
func chains(epoch uint64) [][]laid {
	value, none, newer := laid{7, epoch, 1, "v"}, laid{8, epoch, 0, "none"}, laid{9, epoch + 1, 1, "newer"}
	return [][]laid{nil, {value}, {none}, {{7, 0, 1, ""}}, {newer, value}, {newer, none}, {newer, newer}, {none, value}, append(all(40, newer), value)}
}

// tellings are what there may be on these many shelves at an epoch.
func tellings(shelves int, epoch uint64) []tale {
	l := []tale{{}, {shelves: all(shelves, lacking("k"))}}
	for _, n := range []int{0, shelves / 2, shelves - 1} {
		for _, chain := range chains(epoch) {
			l = append(l, tale{shelves: append(all(n, stand{}), stand{4, "k", chain})})
		}
	}
	mixed := tale{}
	for shelf := range shelves {
		s := stand{uint64(10 + shelf), fmt.Sprint("key ", (shelf*37)%64), chains(epoch)[shelf%9]}
		if shelf%4 == 2 {
			s = stand{}
		}
		mixed.shelves = append(mixed.shelves, s)
	}
	return append(l, mixed)
}

// Each pin that may be had, with each way to go on behind that.
func TestActs(t *testing.T) {
	for _, c := range configs {
		for _, thread := range []int{0, 1, c.Pins - 1, c.Pins, 12, math.MaxInt} {
			for _, n := range []int{0, 1, c.Pins / 2, c.Pins - 1, c.Pins} {
				for _, is := range tellings(c.Shelves, 7) {
					is.epoch, is.swaps = 7, all(n, uint64(3))
					want := follows(t, c, thread, is)
					if n >= c.Pins && want != tooMany || n < c.Pins && want.mark != n+3 {
						t.Fatal("reckoned wrong")
					}
				}
			}
		}
	}
}

// All ways in which pins may be taken.
func TestActsOfAllPins(t *testing.T) {
	for pins := 1; pins <= 8; pins++ {
		c := api.Config{Cap: 3, Pins: pins, Shelves: 2}
		for thread := range 2 * pins {
			for taken := range 1 << pins {
				var swaps []uint64
				for i := range pins {
					swaps = append(swaps, uint64(taken>>i&1*(i+2)))
				}
				follows(t, c, thread, tale{epoch: 4, swaps: swaps, shelves: []stand{holding("b", "1"), {6, "a", []laid{{9, 5, 1, "x"}, {7, 4, 1, "v"}}}}})
			}
		}
	}
}

// The epoch goes on, once and many times, comes back, and is any number: all chains are read at the one that was stored last.
func TestActsAgain(t *testing.T) {
	for _, c := range []api.Config{least, small, configs[4]} {
		for _, swaps := range [][]uint64{nil, {4}} {
			if len(swaps) >= c.Pins {
				continue
			}
			for _, first := range epochs {
				for _, again := range [][]uint64{nil, {first}, {first + 1}, {first - 1}, {first + 1, first}, {first + 1, first + 2}, {first + 2, first + 2}, {first - 1, first + 1, first}, {math.MaxUint64}, {0, math.MaxUint64, 0}, {first + 5, first + 4, first + 3, first + 2}} {
					is := tale{epoch: first, swaps: swaps, again: again}
					_, _, pinned := is.pinning(c, 1)
					for _, epoch := range []uint64{first, first + 1, first - 1, pinned - 1, pinned, pinned + 1, 0, math.MaxUint64} {
						one := stand{6, "k", []laid{{9, epoch, 1, "first"}, {8, pinned, 1, "second"}}}
						is.shelves = all(c.Shelves, one)
						want := follows(t, c, 1, is)
						if epoch <= pinned && want.pairs != `"k"="first"` || epoch > pinned && want.pairs != `"k"="second"` {
							t.Fatal("reckoned wrong", want)
						}
					}
				}
			}
		}
	}
}

// However often the epoch goes on, it is gone after, and each act of that counts.
func TestActsAgainManyTimes(t *testing.T) {
	for _, n := range []int{1, 2, 10, 100, 1000} {
		for _, step := range []uint64{1, 2, math.MaxUint64, 1 << 63} {
			var again []uint64
			for i := range uint64(n) {
				again = append(again, 9+(i+1)*step)
			}
			is := tale{epoch: 9, swaps: []uint64{5}, again: again, shelves: []stand{holding("k", "v")}}
			if want := follows(t, small, 2, is); want != (end{0, `"k"="v"`, 4 + 2*n}) {
				t.Fatal("reckoned wrong", want)
			}
		}
	}
}

// Of some shelves each may have a key or not; of each count of shelves, the first one alone has one, one in the middle, the last one, each other one, and all.
func TestShelvesWithKeys(t *testing.T) {
	for shelves := 1; shelves <= 7; shelves++ {
		c := api.Config{Cap: 2, Pins: 2, Shelves: shelves}
		for which := range 1 << shelves {
			var is tale
			for shelf := range shelves {
				if is.shelves = append(is.shelves, stand{}); which>>shelf&1 == 1 {
					is.shelves[shelf] = holding(string(rune('z'-shelf)), fmt.Sprint(shelf))
				}
			}
			follows(t, c, 1, is)
		}
	}
	for shelves := 1; shelves <= 64; shelves++ {
		c := api.Config{Cap: 2, Pins: 2, Shelves: shelves}
		for _, has := range []func(int) bool{
			func(shelf int) bool { return shelf == 0 },
			func(shelf int) bool { return shelf == shelves/2 },
			func(shelf int) bool { return shelf == shelves-1 },
			func(shelf int) bool { return shelf%2 == 1 },
			func(shelf int) bool { return shelf%2 == 0 },
			func(shelf int) bool { return true },
		} {
			is := tale{epoch: 2}
			keys := 0
			for shelf := range shelves {
				if is.shelves = append(is.shelves, stand{}); has(shelf) {
					is.shelves[shelf] = stand{uint64(2 + shelf), fmt.Sprint("key ", shelf*29%64), []laid{{80, 3, 1, "newer"}, {uint64(100 + shelf), 2, 1, fmt.Sprint(shelf)}}}
					keys++
				}
			}
			if want := follows(t, c, 1, is); strings.Count(want.pairs, "=") != keys {
				t.Fatal("reckoned wrong", want)
			}
		}
	}
}

// Each two of the chains there may be, one behind the other: what one shelf has is of no matter to the next one.
func TestChainsSideBySide(t *testing.T) {
	for _, first := range chains(5) {
		for _, second := range chains(5) {
			for _, third := range chains(5) {
				follows(t, small, 0, tale{epoch: 5, shelves: []stand{{7, "k", first}, {8, "j", second}, {9, "l", third}}})
			}
		}
	}
}

// Epochs, blocks and Live words at their ends, together.
func TestChains(t *testing.T) {
	for _, epoch := range epochs {
		for _, is := range []uint64{epoch - 1, epoch, epoch + 1, 0, 1, math.MaxUint64} {
			for _, live := range lives {
				for _, block := range blocks {
					one := stand{block, "k", []laid{{block, is, live, "first"}, {3, epoch, live, "second"}}}
					follows(t, small, 0, tale{epoch: epoch, shelves: []stand{{}, one, holding("j", "v")}})
				}
			}
		}
	}
	for _, n := range []int{63, 64, 255, 256, 1000} {
		follows(t, small, 0, tale{epoch: 4, shelves: []stand{{2, "k", append(all(n, laid{7, 5, 1, "newer"}), laid{8, 4, 1, "v"})}, {3, "j", all(n, laid{7, 5, 1, "newer"})}}})
	}
}

// Keys and values of all kinds, alone and beside others.
func TestTexts(t *testing.T) {
	for _, key := range texts() {
		for _, value := range texts() {
			follows(t, least, 2, tale{shelves: []stand{holding(key, value)}})
			follows(t, small, 2, tale{shelves: []stand{holding("key", "v"), holding(key, value), holding(key+"\x00", key)}})
			follows(t, small, 2, tale{shelves: []stand{holding(value, key), lacking("k"), holding(key, value)}})
		}
	}
	var is tale
	for i, key := range texts() {
		is.shelves = append(is.shelves, holding(key, texts()[len(texts())-1-i]))
	}
	follows(t, greatest, 3, is)
	slices.Reverse(is.shelves)
	follows(t, greatest, 3, is)
}

// In whatever order the keys stand on the shelves, they rise: as bytes do, and a beginning of a text ahead of it.
func TestKeysRise(t *testing.T) {
	keys := []string{"", "\x00", "B", "a", "a\x00", "ab", "\xff"}
	c := api.Config{Cap: 1, Pins: 1, Shelves: len(keys)}
	var want []string
	for i, key := range keys {
		want = append(want, fmt.Sprintf("%q=%q", key, fmt.Sprint(i)))
	}
	for _, order := range orders(len(keys)) {
		var is tale
		for _, i := range order {
			is.shelves = append(is.shelves, holding(keys[i], fmt.Sprint(i)))
		}
		l, _ := is.course(c, 0)
		x := New(c, 0)
		for _, p := range l {
			x.Take(p.got)
		}
		said(t, fmt.Sprint(order), x, end{0, strings.Join(want, " "), 3})
	}
}

// Of several shelves with one key the last one counts that has a value.
func TestOneKeyOnSeveralShelves(t *testing.T) {
	ways := []stand{{}, holding("k", "first"), holding("k", "second"), holding("k", ""), lacking("k"), {5, "k", nil}, {5, "k", []laid{{9, 3, 1, "newer"}}}, holding("j", "another"), lacking("j")}
	for _, shelves := range []int{2, 3, 4} {
		c := api.Config{Cap: 1, Pins: 1, Shelves: shelves}
		for n, more := 0, true; more; n++ {
			is := tale{epoch: 2}
			rest := n
			for range shelves {
				is.shelves = append(is.shelves, ways[rest%len(ways)])
				rest /= len(ways)
			}
			more = rest == 0
			follows(t, c, 0, is)
		}
	}
	for _, x := range []struct {
		shelves []stand
		want    string
	}{
		{[]stand{holding("k", "1"), holding("k", "2"), holding("k", "3")}, `"k"="3"`},
		{[]stand{holding("k", "1"), holding("k", "2"), lacking("k")}, `"k"="2"`},
		{[]stand{holding("k", "1"), lacking("k"), lacking("k")}, `"k"="1"`},
		{[]stand{lacking("k"), holding("k", "2"), {}}, `"k"="2"`},
		{[]stand{holding("k", "1"), lacking("k"), holding("k", "")}, `"k"=""`},
		{[]stand{lacking("k"), lacking("k"), lacking("k")}, ""},
		{[]stand{holding("k", "1"), holding("j", "2"), {5, "k", nil}}, `"j"="2" "k"="1"`},
	} {
		if want := follows(t, small, 0, tale{shelves: x.shelves}); want != (end{0, x.want, 3}) {
			t.Fatal("reckoned wrong", want)
		}
	}
}

// A text beside a word, a word beside a text, and what is answered to a store, are of no matter.
func TestAnswersOfNoMatter(t *testing.T) {
	for _, c := range []api.Config{least, small, configs[4]} {
		for i, is := range tellings(c.Shelves, 8) {
			for _, is.swaps = range [][]uint64{nil, {1}, all(c.Pins, uint64(9))} {
				for _, is.again = range [][]uint64{nil, {8}, {9, 8}} {
					is.epoch = 7
					l, want := is.course(c, 1)
					for _, text := range []string{"", "k", "v", "\x00", strings.Repeat("t", 5000)} {
						for _, word := range []uint64{0, 1, 7, 8, 9, math.MaxUint64} {
							for i := range l {
								if l[i].act.Kind != api.Words {
									l[i].got.Text = text
								}
								if l[i].act.Kind == api.Words || l[i].act.Kind == api.Store {
									l[i].got.Word = word
								}
							}
							through(t, fmt.Sprint(i, text, word), New(c, 1), l, want)
						}
					}
				}
			}
		}
	}
}

// Ahead of the end, and behind it; when all but the last store is done there is none yet.
func TestResult(t *testing.T) {
	x := New(small, 0)
	for _, g := range twoKeys[:len(twoKeys)-1] {
		unsaid(t, "ahead", x)
		x.Take(g)
	}
	going(t, "all but the last store", len(twoKeys)-1, x, stored(4, 0))
	x.Take(api.Got{Word: 3, Text: "k"})
	for range 5 {
		said(t, "behind", x, end{0, `"a"="1" "b"="2"`, 4})
	}
	x = New(small, 0)
	for range 4 {
		unsaid(t, "ahead of too many", x)
		x.Take(api.Got{Word: 5})
	}
	for range 5 {
		said(t, "behind too many", x, tooMany)
	}
}

// Asked never, asked often: what it is asked for is of no matter.
func TestAskedNever(t *testing.T) {
	for i, is := range tellings(3, 8) {
		for _, is.swaps = range [][]uint64{nil, {1}, {8, 7}, all(3, uint64(3))} {
			for _, is.again = range [][]uint64{nil, {8}, {9, 8}} {
				is.epoch = 7
				l, want := is.course(small, 1)
				for at := range len(l) + 1 {
					x := New(small, 1)
					for _, p := range l[:at] {
						x.Take(p.got)
					}
					if at < len(l) {
						going(t, fmt.Sprint(i), at, x, l[at].act)
					} else {
						ended(t, fmt.Sprint(i, at), x, want)
					}
				}
			}
		}
	}
}

// Cap and Pins are of matter for the cells; Queue, Watchers and Seed are of none.
func TestConfigs(t *testing.T) {
	for cap := 1; cap <= 32; cap++ {
		for pins := 1; pins <= 8; pins++ {
			for _, shelves := range []int{1, 2, 5, 64} {
				for _, rest := range []api.Config{{}, {Queue: 64, Watchers: 8, Seed: math.MaxUint64}, {Queue: 1, Watchers: 1, Seed: 1}} {
					c := api.Config{Cap: cap, Pins: pins, Shelves: shelves, Queue: rest.Queue, Watchers: rest.Watchers, Seed: rest.Seed}
					is := tale{epoch: 3, swaps: []uint64{1}, again: []uint64{4}, shelves: []stand{{3, "k", []laid{{5, 5, 1, "x"}, {6, 4, 1, "v"}}}, holding("j", "w")}}
					is.shelves = append(is.shelves, all(shelves, lacking("i"))...)
					follows(t, c, 11, is)
				}
			}
		}
	}
}

func TestThreads(t *testing.T) {
	for _, c := range configs {
		for _, thread := range append([]int{c.Pins - 1, c.Pins, c.Pins + 1, 2*c.Pins - 1, 64 * c.Pins}, threads...) {
			follows(t, c, thread, tale{epoch: 3, shelves: []stand{holding("k", "v")}})
		}
	}
}

func TestNil(t *testing.T) {
	nothing(t, "nil", nil)
	if n, is := drive.Alone(heap.New(), (*View)(nil), 10); n != 0 || !is {
		t.Fatal(n, is)
	}
}

// idle holds that a routine does nothing on a heap.
func idle(t *testing.T, what string, x *View) {
	t.Helper()
	s := open(small)
	s.lay("k", 0, true, "v")
	was := look(s.heap)
	if n, is := drive.Alone(s.heap, x, 10); n != 0 || !is || look(s.heap) != was {
		t.Fatal(what, n, is, look(s.heap))
	}
}

// One that New did not make has nothing to do, and never will.
func TestPlain(t *testing.T) {
	var plain View
	nothing(t, "var", &plain)
	nothing(t, "literal", &View{})
	nothing(t, "new", new(View))
	row := make([]View, 3)
	for i := range row {
		nothing(t, "of a row", &row[i])
	}
	idle(t, "plain", &View{})
}

// Of a thread below 0 nothing is done.
func TestThreadsThatAreNone(t *testing.T) {
	for _, c := range configs {
		for _, thread := range []int{-1, -2, -c.Pins, -c.Pins - 1, -8, -64, -1 << 31, -1 << 32, math.MinInt + 1, math.MinInt} {
			nothing(t, fmt.Sprint(c, thread), New(c, thread))
			idle(t, fmt.Sprint(c, thread), New(c, thread))
		}
	}
}

// Of a config that may not be, one number of which is beyond its ends, nothing is done; of one at the ends something is.
func TestConfigsThatMayNotBe(t *testing.T) {
	for _, from := range append([]api.Config{{Cap: 16, Pins: 4, Shelves: 32, Queue: 32, Watchers: 4, Seed: 9}}, configs...) {
		for _, c := range beyond(from) {
			for _, thread := range []int{0, 1, 5, math.MaxInt, -1} {
				nothing(t, fmt.Sprintf("%+v", c), New(c, thread))
			}
			idle(t, fmt.Sprintf("%+v", c), New(c, 0))
		}
		for _, f := range fields {
			for _, n := range []int{f.least, f.least + 1, f.most - 1, f.most} {
				c := from
				*f.of(&c) = n
				follows(t, c, 5, tale{epoch: 3, shelves: []stand{holding("k", "v")}})
			}
		}
	}
	nothing(t, "zero", New(api.Config{}, 0))
	nothing(t, "all beyond", New(api.Config{Cap: 33, Pins: 9, Shelves: 65, Queue: 65, Watchers: 9}, 0))
}

// Two routines share nothing, in whatever order they go on, of the same things or of others, and what was handed out stays as it was.
func TestApart(t *testing.T) {
	first := tale{epoch: 7, again: []uint64{8}, shelves: []stand{holding("k", "first"), {}, {5, "j", []laid{{9, 9, 1, "x"}, {8, 8, 1, "v"}}}}}
	second := tale{epoch: 3, swaps: []uint64{2}, shelves: []stand{holding("k", "second"), lacking("j"), holding("i", "")}}
	for _, other := range []struct {
		c      api.Config
		thread int
	}{{small, 1}, {small, 2}, {least, 0}, {configs[4], 5}} {
		for order := range 1 << 11 {
			la, wa := first.course(small, 1)
			lb, wb := second.course(other.c, other.thread)
			xs := [2]*View{New(small, 1), New(other.c, other.thread)}
			ls, wants := [2][]pace{la, lb}, [2]end{wa, wb}
			var at [2]int
			var kept [2]api.Told
			for pick := 0; at[0] < len(la) || at[1] < len(lb); pick++ {
				who := order >> (pick % 11) & 1
				if at[who] == len(ls[who]) {
					who = 1 - who
				}
				if a, more := xs[who].Act(); a != ls[who][at[who]].act || !more {
					t.Fatal(order, pick, who, a, more)
				}
				xs[who].Take(ls[who][at[who]].got)
				if at[who]++; at[who] == len(ls[who]) {
					kept[who], _ = xs[who].Result()
				}
				for i, x := range xs {
					if at[i] == len(ls[i]) {
						said(t, fmt.Sprint(order, pick, i), x, wants[i])
						if got, zero := endOf(kept[i]); got != wants[i] || !zero {
							t.Fatal(order, pick, i, kept[i])
						}
					}
				}
			}
		}
	}
}

// What is done with a config once it was handed in is of no matter.
func TestConfigApart(t *testing.T) {
	c := small
	x := New(c, 1)
	is := tale{epoch: 3, swaps: []uint64{1}, shelves: []stand{holding("k", "v"), {}, holding("j", "w")}}
	l, want := is.course(c, 1)
	c = greatest
	through(t, "a config that was turned", x, l, want)
	if c != greatest {
		t.Fatal(c)
	}
}

// Each act may be, and needs no waiting for.
func TestActsMayBe(t *testing.T) {
	for _, c := range configs {
		for _, epoch := range epochs {
			for _, is := range tellings(c.Shelves, epoch) {
				is.epoch, is.again = epoch+1, []uint64{epoch}
				l, _ := is.course(c, 3)
				x := New(c, 3)
				for _, p := range l {
					a, more := x.Act()
					if !more || !act.Right(a) || !act.Ready(nil, a) || act.Looks(a) != (a.Kind == api.Load || a.Kind == api.Words) {
						t.Fatalf("%+v", a)
					}
					x.Take(p.got)
				}
			}
		}
	}
}

func TestActsOfAny(t *testing.T) {
	r := rand.New(rand.NewSource(271))
	for range 6000 {
		c, thread := anyConfig(r), int(anyWord(r)>>1)
		if r.Intn(2) == 0 {
			c.Shelves = 1 + r.Intn(6)
		}
		is := tale{epoch: anyWord(r)}
		for range r.Intn(c.Pins + 1) {
			is.swaps = append(is.swaps, anyWord(r)|1<<r.Intn(64))
		}
		for range r.Intn(4) {
			is.again = append(is.again, anyWord(r))
		}
		for range r.Intn(c.Shelves + 1) {
			var s stand
			if r.Intn(5) > 0 {
				s.block, s.key = anyWord(r)|1<<r.Intn(64), anyText(r, 2)
			}
			for range r.Intn(4) {
				s.chain = append(s.chain, laid{anyWord(r) | 1<<r.Intn(64), anyWord(r), uint64(r.Intn(3)), anyText(r, 3)})
			}
			is.shelves = append(is.shelves, s)
		}
		l, want := is.course(c, thread)
		for i := range l {
			if l[i].act.Kind != api.Words {
				l[i].got.Text = anyText(r, 2)
			}
			if l[i].act.Kind == api.Words || l[i].act.Kind == api.Store {
				l[i].got.Word = anyWord(r)
			}
		}
		through(t, fmt.Sprintf("%+v %d %.300v", c, thread, is), New(c, thread), l, want)
	}
}

// P27.2: alone

// By words that are written out: a=1 from 1 on, a=2 and b=1 from 2 on, no a from 3 on, a= from 5 on, and neither from 6 on.
func TestAloneWrittenOut(t *testing.T) {
	s := open(small)
	s.lay("a", 1, true, "1")
	s.lay("a", 2, true, "2")
	s.lay("b", 2, true, "1")
	s.lay("a", 3, false, "")
	s.lay("a", 5, true, "")
	s.lay("b", 6, false, "")
	s.lay("a", 6, false, "")
	for _, x := range []struct {
		epoch uint64
		pairs string
	}{
		{0, ""}, {1, `"a"="1"`}, {2, `"a"="2" "b"="1"`}, {3, `"b"="1"`}, {4, `"b"="1"`}, {5, `"a"="" "b"="1"`}, {6, ""}, {7, ""}, {math.MaxUint64, ""},
	} {
		s.reach(x.epoch)
		for thread := range 4 {
			if is := s.check(t, thread); is != (end{0, x.pairs, 3}) {
				t.Fatal(x.epoch, thread, is)
			}
		}
		s.asReads(t, 1, []string{"a", "b", "c", ""})
	}
	if n := s.heap.Faults(); n != 0 {
		t.Fatal(n)
	}
}

// On shelves of all counts, with room and without, at each epoch.
func TestAlone(t *testing.T) {
	for _, c := range configs {
		keys := []string{"a", "", "b", "\x00", "key", "sixteen bytes..k", "\xff", "kez"}
		s := open(c)
		s.fill(keys, 6)
		s.checkAll(t, 3, append(keys, "never put", "c", "k", "ke"))
	}
}

// Where all shelves are taken, others' keys are not there.
func TestAloneOnFullShelves(t *testing.T) {
	for _, c := range configs {
		s := open(c)
		var keys []string
		for i := range c.Shelves + 3 {
			keys = append(keys, fmt.Sprint("key ", i))
		}
		s.fill(keys, 3)
		if s.lay("one more", 1, true, "x") || len(s.laid) != c.Shelves {
			t.Fatal("there is room")
		}
		for epoch := uint64(0); epoch <= s.newest()+1; epoch += s.newest()/4 + 1 {
			s.reach(epoch)
			s.check(t, 1)
			s.asReads(t, 1, append(keys, "one more"))
		}
		if n := s.heap.Faults(); n != 0 {
			t.Fatal(n)
		}
	}
}

// With any of the pins taken by others, from each thread on; with all of them there are too many readers.
func TestAloneWithPinsTaken(t *testing.T) {
	for pins := 1; pins <= 8; pins++ {
		s := open(api.Config{Cap: 2, Pins: pins, Shelves: 2})
		s.lay("a", 1, true, "1")
		s.lay("a", 3, true, "3")
		s.reach(2)
		for thread := range 2*pins + 1 {
			for which := range 1 << pins {
				s.taken(which)
				is := s.check(t, thread)
				if all := which == 1<<pins-1; all != (is == tooMany) || !all && is.pairs != `"a"="1"` {
					t.Fatal(pins, thread, which, is)
				}
				s.asReads(t, thread, []string{"a", "b"})
			}
		}
		if n := s.heap.Faults(); n != 0 {
			t.Fatal(n)
		}
	}
}

// At the greatest epochs too.
func TestAloneAtGreatEpochs(t *testing.T) {
	s := open(small)
	for i, epoch := range epochs {
		s.lay("k", epoch, i%3 != 1, fmt.Sprint(epoch))
		s.lay("j", epoch, i%4 != 2, fmt.Sprint("j", epoch))
	}
	for _, epoch := range epochs {
		for _, near := range []uint64{epoch - 1, epoch, epoch + 1} {
			s.reach(near)
			s.check(t, 1)
			s.asReads(t, 1, []string{"k", "j", "i"})
		}
	}
	if n := s.heap.Faults(); n != 0 {
		t.Fatal(n)
	}
}

// Keys and values of all kinds, as far as a block may have them.
func TestAloneOfTexts(t *testing.T) {
	for _, c := range configs {
		s := open(c)
		var short []string
		for _, text := range texts() {
			if len(text) <= 4096 {
				short = append(short, text)
			}
		}
		for n := range 2 * len(short) {
			s.lay(short[n%len(short)], uint64(n), n%3 != 1, short[(n*5+n/len(short))%len(short)])
		}
		s.checkAll(t, 2, short)
	}
}

// The other cells, other blocks, and the lock, are of no matter.
func TestAloneBesideOthers(t *testing.T) {
	for _, c := range configs {
		s := open(c)
		s.lay("k", 1, true, "v")
		s.lay("j", 2, true, "w")
		s.lay("k", 2, false, "")
		s.heap.Drop(s.heap.Make(2, "gone"))
		s.heap.Make(2, "record")
		for i := range c.Cap {
			s.heap.Store(1, 3+c.Pins+i, uint64(i))
		}
		s.heap.Lock()
		s.checkAll(t, 7, []string{"k", "j"})
		s.heap.Unlock()
		s.checkAll(t, 7, []string{"k", "j"})
	}
}

// Older versions than the one that is read may be gone.
func TestAloneWhereOlderAreGone(t *testing.T) {
	s := open(small)
	for n := range 6 {
		s.lay("k", uint64(n+1), n%3 != 2, fmt.Sprint(n))
	}
	l := s.laid["k"]
	for i := range len(l) - 1 {
		s.heap.Drop(l[i].block)
		for epoch := l[i+1].epoch; epoch <= 7; epoch++ {
			s.reach(epoch)
			s.check(t, 0)
		}
	}
	if n := s.heap.Faults(); n != 0 {
		t.Fatal(n)
	}
}

// Any heaps.
func TestAloneAny(t *testing.T) {
	r := rand.New(rand.NewSource(272))
	for range 200 {
		c := anyConfig(r)
		s := open(c)
		var keys []string
		for range 1 + r.Intn(10) {
			keys = append(keys, anyText(r, 2))
		}
		var epoch uint64
		for range r.Intn(40) {
			epoch += uint64(r.Intn(3))
			s.lay(keys[r.Intn(len(keys))], epoch, r.Intn(3) > 0, anyText(r, 32))
		}
		for range 8 {
			s.reach(uint64(r.Intn(int(epoch) + 2)))
			s.taken(r.Intn(1<<c.Pins) & r.Intn(1<<c.Pins))
			s.check(t, r.Intn(20))
			s.asReads(t, r.Intn(20), append(keys, anyText(r, 2)))
		}
		if n := s.heap.Faults(); n != 0 {
			t.Fatal(n)
		}
	}
}

// No heap: each act is answered nothing, and so no shelf has a key.
func TestAloneOnNoHeap(t *testing.T) {
	for _, c := range configs {
		x := New(c, 5)
		if n, is := drive.Alone(nil, x, 100); n != 4+c.Shelves || !is {
			t.Fatal(n, is)
		}
		ended(t, "no heap", x, end{mark: 3})
	}
}

// While others lay, and the epoch goes on

// ready is a store on which each of these keys was laid twice, the second time some without a value, and the epoch is that of the newest ones; those pins are taken whose digit is 1.
func ready(c api.Config, pins int, keys []string) *store {
	s := open(c)
	for i, key := range keys {
		s.lay(key, uint64(1+i), true, fmt.Sprint("first of ", key))
	}
	for i, key := range keys {
		s.lay(key, uint64(1+len(keys)), i%3 != 1, fmt.Sprint("second of ", key))
	}
	s.reach(uint64(1 + len(keys)))
	s.taken(pins)
	return s
}

// At each place others come, once or many times: they lay versions on all shelves, those that were read and those that were not, with keys that are new, and let the epoch go on.
func TestWhileOthersLay(t *testing.T) {
	for _, c := range []api.Config{least, small, {Cap: 1, Pins: 2, Shelves: 2, Seed: 1}, {Cap: 3, Pins: 4, Shelves: 8, Seed: 77}} {
		for _, keys := range [][]string{nil, {"b"}, {"b", "a", "d"}} {
			for _, times := range []int{1, 2, 5} {
				for place := 0; ; place++ {
					s := ready(c, 1<<(c.Pins-1)-1, keys)
					x := s.chase(0)
					for range place {
						x.step(t)
					}
					if x.acts < place {
						break
					}
					for round := range times {
						for _, do := range s.others([]string{"a", "b", "c", "", "d"}, round) {
							do()
						}
					}
					x.finish(t, fmt.Sprint(c, keys, times, place))
				}
			}
		}
	}
}

// Versions that were laid, and whose epoch is stored only later, or never: at each two places.
func TestWhileVersionsAreAhead(t *testing.T) {
	for _, c := range []api.Config{least, small, {Cap: 3, Pins: 4, Shelves: 8, Seed: 77}} {
		for _, keys := range [][]string{{"b"}, {"a", "b", "e"}} {
			for laidAt := range 40 {
				for storedAt := laidAt; storedAt <= 40; storedAt++ {
					s := ready(c, 0, keys)
					x := s.chase(0)
					for place := range 40 {
						if place == laidAt {
							for _, key := range []string{"b", "c", "a"} {
								s.lay(key, s.epoch()+1, key != "a", "later")
							}
						}
						if place == storedAt {
							s.reach(s.epoch() + 1)
						}
						x.step(t)
					}
					x.finish(t, fmt.Sprint(c, keys, laidAt, storedAt))
				}
			}
		}
	}
}

// Of others' steps each is done behind a step of the view, from each place on: so shelves stand half laid, with a version and no key yet.
func TestWhileOthersGoStepByStep(t *testing.T) {
	for _, c := range configs[:7] {
		for _, keys := range [][]string{nil, {"b"}, {"b", "a", "d", "e"}} {
			for _, paces := range []int{1, 2, 3} {
				for from := range 30 {
					s := ready(c, 0, keys)
					x := s.chase(3)
					for range from {
						x.step(t)
					}
					for round := range 2 {
						for i, do := range s.others([]string{"d", "c", "a", "b"}, round) {
							if do(); i%paces == 0 {
								x.step(t)
							}
						}
					}
					x.finish(t, fmt.Sprint(c, keys, paces, from))
				}
			}
		}
	}
}

// The epoch goes on at each act, for a while.
func TestWhileTheEpochGoesOnAtEachAct(t *testing.T) {
	for _, c := range configs {
		for times := range 60 {
			s := ready(c, 0, []string{"b", "a"})
			x := s.chase(3)
			for i := range times {
				s.lay([]string{"a", "b", "c"}[i%3], s.epoch()+1, i%2 == 0, fmt.Sprint(i))
				s.reach(s.epoch() + 1)
				x.step(t)
			}
			x.finish(t, fmt.Sprint(c, times))
		}
	}
}

// Several side by side with others who lay, in any order: none has another one's pin, each tells the state at the epoch that it has pinned, and who is told that there are too many did no more than try each pin.
func TestSideBySide(t *testing.T) {
	r := rand.New(rand.NewSource(273))
	refused := 0
	for range 1500 {
		c := anyConfig(r)
		c.Pins, c.Shelves = 1+r.Intn(4), 1+r.Intn(8)
		s := ready(c, 0, []string{"b", "a", "", "\xff", "aa"}[:r.Intn(6)])
		var xs []*chase
		for range 1 + r.Intn(c.Pins+2) {
			xs = append(xs, s.chase(r.Intn(20)))
		}
		var doing []func()
		calm := 1 + r.Intn(5)
		for round := range 300 {
			if r.Intn(calm) > 0 {
				xs[r.Intn(len(xs))].step(t)
				apart(t, s, xs)
				continue
			}
			if len(doing) == 0 {
				doing = s.others([]string{"a", "b", "c", anyText(r, 1), "aa"}[r.Intn(5):], round)
			}
			doing[0]()
			doing = doing[1:]
		}
		// Those that are not done go on one by one, as long as any of them has something to do.
		for more := true; more; {
			more = false
			for _, x := range xs {
				more = x.step(t) || more
			}
		}
		for _, x := range xs {
			if x.pin >= 0 {
				x.finish(t, fmt.Sprintf("%+v", c))
				continue
			}
			refused++
			said(t, fmt.Sprintf("%+v", c), x.view, tooMany)
			if x.acts != c.Pins+1 {
				t.Fatal(c, x.acts)
			}
		}
		for pin := range c.Pins {
			if s.cell(pinCell(pin)) != 0 {
				t.Fatal(c, look(s.heap))
			}
		}
	}
	if refused == 0 {
		t.Fatal("nobody was refused")
	}
}

// apart holds that each view that has a pin has one of its own, which tells what it pinned.
func apart(t *testing.T, s *store, xs []*chase) {
	t.Helper()
	held := map[int]bool{}
	for _, x := range xs {
		if _, is := x.view.Result(); x.pin < 0 || is {
			continue
		}
		if held[x.pin] || s.cell(x.pin) != x.pinned+1 {
			t.Fatal(s.config, x.pin, s.cell(x.pin), x.pinned)
		}
		held[x.pin] = true
	}
}

// Whoever has the lock, it reads, and takes none.
func TestTakesNoLock(t *testing.T) {
	for _, locked := range []bool{false, true} {
		s := ready(small, 0, []string{"b", "a"})
		if locked {
			s.heap.Lock()
		}
		x := New(small, 0)
		for d := range drive.Steps(s.heap, x, 100) {
			if d.Act.Kind == api.Lock || d.Act.Kind == api.Unlock || s.heap.Locked() != locked {
				t.Fatal(d)
			}
		}
		if told, is := x.Result(); told.Reply.Code != 0 || written(told.Reply.Pairs) != `"b"="second of b"` || !is {
			t.Fatal(told, is)
		}
	}
}
