package find

import (
	"fmt"
	"math"
	"math/rand"
	"strings"
	"testing"

	"philtre/act"
	"philtre/api"
	"philtre/drive"
	"philtre/heap"
)

// A find is driven as any routine is.
var _ api.Routine = (*Find)(nil)

// P23.1: the routine

// Where no shelf has a key: one act, and Free, the way's first shelf.
func TestExample(t *testing.T) {
	for _, c := range configs {
		for _, key := range keys() {
			x := New(c, key)
			if n, is := drive.Alone(control(c), x, 10); n != 1 || !is {
				t.Fatal(c, key, n, is)
			}
			if f, is := x.Result(); f != (Found{Kind: Free, Shelf: wayOf(c, key)[0]}) || !is {
				t.Fatal(c, key, f, is)
			}
		}
	}
}

func TestNumbers(t *testing.T) {
	if l := [3]int{Here, Free, Taken}; l != [3]int{1, 2, 3} {
		t.Fatal(l)
	}
	// They are numbers of whatever type is asked for.
	if l := [3]uint8{Here, Free, Taken}; l != [3]uint8{1, 2, 3} {
		t.Fatal(l)
	}
	if f := (Found{2, 5}); f.Kind != 2 || f.Shelf != 5 {
		t.Fatal(f)
	}
}

// By numbers that are written out: a's way at the seed 0 is 2, 0, 1, and the shelves' keys stand in 6, 8 and 10.
func TestActsWrittenOut(t *testing.T) {
	first := pace{api.Act{Kind: 1, Block: 1, Cell: 10}, api.Got{Word: 9}}
	second := pace{api.Act{Kind: 1, Block: 1, Cell: 6}, api.Got{Word: 7}}
	third := pace{api.Act{Kind: 1, Block: 1, Cell: 8}, api.Got{Word: 5}}
	of := func(block uint64, text string) pace {
		return pace{api.Act{Kind: 6, Block: block}, api.Got{Text: text}}
	}
	none := func(p pace) pace { return pace{act: p.act} }
	for _, x := range []struct {
		what string
		l    []pace
		want Found
	}{
		{"free first", []pace{none(first)}, Found{2, 2}},
		{"here first", []pace{first, of(9, "a")}, Found{1, 2}},
		{"free second", []pace{first, of(9, "b"), none(second)}, Found{2, 0}},
		{"here second", []pace{first, of(9, "b"), second, of(7, "a")}, Found{1, 0}},
		{"free third", []pace{first, of(9, "b"), second, of(7, "c"), none(third)}, Found{2, 1}},
		{"here third", []pace{first, of(9, "b"), second, of(7, "c"), third, of(5, "a")}, Found{1, 1}},
		{"taken", []pace{first, of(9, "b"), second, of(7, "c"), third, of(5, "d")}, Found{3, 0}},
	} {
		through(t, x.what, New(small, "a"), x.l, x.want)
	}
	// At the seed 1 that of key is 2, 3, 0, 1 of four shelves, whose keys stand in 13, 15, 17 and 19 here.
	c := api.Config{Cap: 5, Pins: 5, Shelves: 4, Seed: 1}
	through(t, "key", New(c, "key"), []pace{
		{api.Act{Kind: 1, Block: 1, Cell: 17}, api.Got{Word: 2}}, of(2, ""),
		{api.Act{Kind: 1, Block: 1, Cell: 19}, api.Got{Word: 2}}, of(2, "ke"),
		{api.Act{Kind: 1, Block: 1, Cell: 13}, api.Got{Word: 1}}, of(1, "key\x00"),
		{api.Act{Kind: 1, Block: 1, Cell: 15}, api.Got{}},
	}, Found{2, 1})
}

// Of each config, seed and key: where no shelf has it, and at each shelf of the way, that it is free, or that it is here.
func TestActs(t *testing.T) {
	for _, c := range configs {
		for _, seed := range seeds {
			c.Seed = seed
			for i, key := range keys() {
				for n := range c.Shelves + 1 {
					if n > 3 && n < c.Shelves-1 && n != 31+i {
						continue
					}
					ahead := same(n, 5, key+"x")
					what := fmt.Sprintf("%+v, key %d, %d ahead", c, i, n)
					l, want := course(c, key, ahead)
					if n == c.Shelves && want != (Found{3, 0}) || n < c.Shelves && want.Kind != 2 || len(l) != min(2*n+1, 2*c.Shelves) {
						t.Fatal("reckoned wrong")
					}
					through(t, what, New(c, key), l, want)
					l, want = course(c, key, append(ahead, told{6, key}))
					through(t, what+", and here", New(c, key), l, want)
				}
			}
		}
	}
}

// The words of just the block that was answered: of 1, of many, of the greatest number; the same one twice.
func TestActsByBlock(t *testing.T) {
	for _, c := range configs {
		for _, key := range []string{"", "k", "sixteen bytes..k"} {
			for _, a := range blocks {
				for _, b := range blocks {
					for _, d := range blocks {
						what := fmt.Sprintf("%+v %q %d %d %d", c, key, a, b, d)
						for _, last := range []string{key, "no " + key} {
							shelves := []told{{a, "x"}, {b, "x" + key}, {d, last}}
							l, want := course(c, key, shelves)
							through(t, what, New(c, key), l, want)
						}
					}
				}
			}
			for _, b := range blocks {
				l, want := course(c, key, same(c.Shelves, b, "x"))
				through(t, fmt.Sprint("all ", b), New(c, key), l, want)
			}
		}
	}
}

// Of a text that is like the key, and not it, the key is not told to be here.
func TestTexts(t *testing.T) {
	for _, c := range []api.Config{least, small, greatest} {
		for i, key := range keys() {
			for j, other := range others(key) {
				if other == key {
					t.Fatal("reckoned wrong", i, j)
				}
				for _, l := range [][]told{
					{{4, other}}, {{4, other}, {5, key}}, {{4, "x"}, {5, other}}, {{4, other}, {4, other}, {4, key}},
					{{4, key}}, {{4, key}, {5, other}}, same(c.Shelves, 4, other),
				} {
					paces, want := course(c, key, l)
					through(t, fmt.Sprintf("%+v: key %d, other %d, %.200q", c, i, j, fmt.Sprint(l)), New(c, key), paces, want)
				}
			}
		}
	}
}

// All texts of at most two bytes of three, as the key, and as what is told.
func TestTextsOfFewBytes(t *testing.T) {
	texts := []string{""}
	for from := 0; len(texts) < 13; from++ {
		for _, b := range []string{"\x00", "k", "\xff"} {
			texts = append(texts, texts[from]+b)
		}
	}
	for _, key := range texts {
		for _, a := range texts {
			for _, b := range texts {
				l, want := course(small, key, []told{{2, a}, {3, b}})
				through(t, fmt.Sprintf("%q %q %q", key, a, b), New(small, key), l, want)
			}
		}
	}
}

// A text beside a load's word, and a word beside the words' text, are of no matter.
func TestAnswersOfNoMatter(t *testing.T) {
	texts := []string{"", "k", "x", "\x00", strings.Repeat("t", 5000)}
	words := []uint64{0, 1, 2, 9, math.MaxUint64}
	for _, c := range []api.Config{least, small, greatest} {
		for _, key := range []string{"", "k"} {
			for _, shelves := range [][]told{{}, {{2, key}}, {{2, "no"}}, {{2, "no"}, {3, key}}, {{2, "no"}, {3, "neither"}, {4, key}}, same(c.Shelves, 2, "no")} {
				l, want := course(c, key, shelves)
				for _, text := range texts {
					for _, word := range words {
						for i := range l {
							if l[i].act.Kind == api.Load {
								l[i].got.Text = text
							} else {
								l[i].got.Word = word
							}
						}
						through(t, fmt.Sprintf("%+v %q %v: %.20q %d", c, key, shelves, text, word), New(c, key), l, want)
					}
				}
			}
		}
	}
}

// The control block as a shelf's key is a block as any other.
func TestControlAsKey(t *testing.T) {
	l, want := course(small, "a", []told{{1, ""}, {1, "a"}})
	if l[1].act != (api.Act{Kind: 6, Block: 1}) || want != (Found{1, 0}) {
		t.Fatal("reckoned wrong")
	}
	through(t, "not it", New(small, "a"), l, want)
	l, want = course(small, "", []told{{1, ""}})
	through(t, "it", New(small, ""), l, want)
}

// Ahead of the end, and behind it.
func TestResult(t *testing.T) {
	x := New(small, "a")
	for i := range 6 {
		if f, is := x.Result(); f != (Found{}) || is {
			t.Fatal(i, f, is)
		}
		x.Take(api.Got{Word: 5, Text: "x"})
	}
	for range 5 {
		if f, is := x.Result(); f != (Found{Kind: 3}) || !is {
			t.Fatal(f, is)
		}
	}
}

// Asked never, asked often: what it is asked for is of no matter.
func TestAskedNever(t *testing.T) {
	for _, shelves := range [][]told{{}, {{2, "a"}}, {{2, "b"}, {3, "a"}}, {{2, "b"}, {3, "c"}}, same(3, 2, "b")} {
		l, want := course(small, "a", shelves)
		for at := range len(l) + 1 {
			x := New(small, "a")
			for _, p := range l[:at] {
				x.Take(p.got)
			}
			if at < len(l) {
				going(t, fmt.Sprint(shelves, at), x, l[at].act)
			} else {
				ended(t, fmt.Sprint(shelves, at), x, want)
			}
		}
	}
}

// Cap and Pins are of matter for the cells alone; Queue and Watchers are of none.
func TestConfigs(t *testing.T) {
	for cap := 1; cap <= 32; cap++ {
		for pins := 1; pins <= 8; pins++ {
			for _, shelves := range []int{1, 2, 5, 64} {
				for _, rest := range []api.Config{{}, {Queue: 64, Watchers: 8}} {
					c := api.Config{Cap: cap, Pins: pins, Shelves: shelves, Queue: rest.Queue, Watchers: rest.Watchers, Seed: 3}
					l, want := course(c, "k", []told{{7, "x"}, {8, "k"}})
					through(t, fmt.Sprintf("%+v", c), New(c, "k"), l, want)
				}
			}
		}
	}
}

// Each count of shelves, through all of them.
func TestShelves(t *testing.T) {
	for shelves := 1; shelves <= 64; shelves++ {
		for _, seed := range seeds {
			c := api.Config{Cap: 2, Pins: 2, Shelves: shelves, Seed: seed}
			for _, key := range []string{"", "k", "another"} {
				for _, n := range []int{shelves - 1, shelves} {
					l, want := course(c, key, same(n, 4, "x"))
					through(t, fmt.Sprintf("%+v %q %d", c, key, n), New(c, key), l, want)
				}
			}
		}
	}
}

func TestNil(t *testing.T) {
	nothing(t, "nil", nil)
	if n, is := drive.Alone(heap.New(), (*Find)(nil), 10); n != 0 || !is {
		t.Fatal(n, is)
	}
}

// One that New did not make has nothing to do, and never will.
func TestPlain(t *testing.T) {
	var plain Find
	nothing(t, "var", &plain)
	nothing(t, "literal", &Find{})
	nothing(t, "new", new(Find))
	row := make([]Find, 3)
	for i := range row {
		nothing(t, "of a row", &row[i])
	}
	h := control(small)
	was := look(h)
	if n, is := drive.Alone(h, &Find{}, 10); n != 0 || !is || look(h) != was {
		t.Fatal(n, is, look(h))
	}
}

// Of a config that may not be, one number of which is beyond its ends, nothing is done; of one at the ends something is.
func TestConfigsThatMayNotBe(t *testing.T) {
	for _, from := range append([]api.Config{{Cap: 16, Pins: 4, Shelves: 32, Queue: 32, Watchers: 4, Seed: 9}}, configs...) {
		for _, f := range fields {
			for _, n := range []int{math.MinInt, math.MinInt32, -1 << 32, -64, -2, -1, f.least - 1, f.most + 1, f.most + 2, 2*f.most + 1, 256, 1 << 16, 1 << 32, 1<<32 + 1, math.MaxInt - 1, math.MaxInt} {
				if n >= f.least && n <= f.most {
					continue
				}
				c := from
				*f.of(&c) = n
				for _, key := range []string{"", "k", strings.Repeat("key", 2000)} {
					nothing(t, fmt.Sprintf("%+v", c), New(c, key))
					h := control(small)
					was := look(h)
					if acts, is := drive.Alone(h, New(c, key), 10); acts != 0 || !is || look(h) != was {
						t.Fatal(c, acts, is, look(h))
					}
				}
			}
			for _, n := range []int{f.least, f.least + 1, f.most - 1, f.most} {
				c := from
				*f.of(&c) = n
				l, want := course(c, "k", []told{{7, "x"}})
				through(t, fmt.Sprintf("%+v", c), New(c, "k"), l, want)
			}
		}
	}
	nothing(t, "zero", New(api.Config{}, ""))
	nothing(t, "all beyond", New(api.Config{Cap: 33, Pins: 9, Shelves: 65, Queue: 65, Watchers: 9}, "k"))
}

// Two routines share nothing, in whatever order they go on, of the same things or of others.
func TestApart(t *testing.T) {
	for _, second := range []struct {
		c   api.Config
		key string
	}{{small, "a"}, {small, "b"}, {least, "a"}, {greatest, ""}, {api.Config{Cap: 2, Pins: 1, Shelves: 3, Seed: 1}, "a"}} {
		for order := range 1 << 10 {
			la, wa := course(small, "a", []told{{11, "x"}, {12, "a"}})
			lb, wb := course(second.c, second.key, []told{{21, "y"}, {22, "z"}, {23, second.key}})
			xs := [2]*Find{New(small, "a"), New(second.c, second.key)}
			ls, wants := [2][]pace{la, lb}, [2]Found{wa, wb}
			var at [2]int
			for pick := range 10 {
				if who := order >> pick & 1; at[who] < len(ls[who]) {
					xs[who].Take(ls[who][at[who]].got)
					at[who]++
				}
				for i, x := range xs {
					if at[i] < len(ls[i]) {
						going(t, fmt.Sprint(order, pick, i), x, ls[i][at[i]].act)
					} else if f, is := x.Result(); f != wants[i] || !is {
						t.Fatal(order, pick, i, f, is)
					}
				}
			}
		}
	}
}

// What is done with a config once it was handed in is of no matter.
func TestConfigApart(t *testing.T) {
	c := small
	x := New(c, "a")
	l, want := course(c, "a", []told{{11, "x"}, {12, "y"}})
	c = greatest
	through(t, "a config that was turned", x, l, want)
	if c != greatest {
		t.Fatal(c)
	}
}

// Each act may be, looks, and needs no waiting for.
func TestActsMayBe(t *testing.T) {
	for _, c := range configs {
		for _, key := range keys() {
			for _, b := range blocks {
				x := New(c, key)
				for a, more := x.Act(); more; a, more = x.Act() {
					if !act.Right(a) || !act.Looks(a) || !act.Ready(heap.New(), a) || act.Text(a) == "" {
						t.Fatalf("%+v", a)
					}
					x.Take(api.Got{Word: b, Text: key + "x"})
				}
			}
		}
	}
}

func TestActsOfAny(t *testing.T) {
	r := rand.New(rand.NewSource(231))
	for range 20000 {
		c, key := anyConfig(r), anyText(r, 20)
		if r.Intn(2) == 0 {
			c.Shelves = 1 + r.Intn(5)
		}
		var shelves []told
		for range r.Intn(c.Shelves + 2) {
			is := told{anyWord(r) | 1<<r.Intn(64), anyText(r, 3)}
			switch r.Intn(20) {
			case 0:
				is.text = key
			case 1:
				is.text = key + "\x00"
			}
			shelves = append(shelves, is)
		}
		l, want := course(c, key, shelves)
		for i := range l {
			if l[i].act.Kind == api.Load {
				l[i].got.Text = anyText(r, 3)
			} else {
				l[i].got.Word = anyWord(r)
			}
		}
		through(t, fmt.Sprintf("%+v %q %v", c, key, shelves), New(c, key), l, want)
	}
}

// P23.2: finds

// names is n keys, no two of which are the same: short and longer ones, some of bytes of all kinds, and some that begin with others.
func names(n int) []string {
	r := rand.New(rand.NewSource(int64(n)))
	seen := map[string]bool{}
	var l []string
	add := func(key string) {
		if !seen[key] && len(l) < n {
			seen[key] = true
			l = append(l, key)
		}
	}
	for len(l) < n {
		key := anyText(r, 16)
		add(key)
		for _, other := range others(key) {
			if r.Intn(4) == 0 {
				add(other)
			}
		}
	}
	r.Shuffle(len(l), func(i, j int) { l[i], l[j] = l[j], l[i] })
	return l
}

// Each key is put on the shelf that was Free for it, one behind the other, up to more of them than there are shelves.
func TestFinds(t *testing.T) {
	for _, c := range configs {
		for _, seed := range []uint64{0, c.Seed, math.MaxUint64} {
			c.Seed = seed
			s := open(c)
			all := names(c.Shelves + 6)
			for i, key := range all {
				if s.enter(t, key) != (i < c.Shelves) {
					t.Fatal(c, i)
				}
				// Where there are many, not all are looked for behind each one.
				for j, key := range all {
					if c.Shelves < 10 || (i+j)%9 == 0 {
						s.check(t, key)
					}
				}
			}
			for _, key := range all {
				s.check(t, key)
			}
			if len(s.shelves) != c.Shelves {
				t.Fatal(c, len(s.shelves))
			}
		}
	}
}

// In two acts for each shelf of its way up to its own: all on one way, each finds its own one.
func TestFindsActs(t *testing.T) {
	for _, shelves := range []int{1, 2, 3, 8} {
		c := api.Config{Cap: 4, Pins: 2, Shelves: shelves, Seed: 5}
		var alike []string
		for i := 0; len(alike) < shelves+3; i++ {
			if key := fmt.Sprint("key ", i); wayOf(c, key)[0] == shelves-1 {
				alike = append(alike, key)
			}
		}
		s := open(c)
		for i, key := range alike {
			if s.enter(t, key) != (i < shelves) {
				t.Fatal(shelves, i)
			}
		}
		for i, key := range alike {
			for range 3 {
				if i >= shelves {
					if f := find(t, s.heap, c, key, 2*shelves); f != (Found{Kind: Taken}) {
						t.Fatal(shelves, i, f)
					}
				} else if f := find(t, s.heap, c, key, 2*(i+1)); f != (Found{Here, wayOf(c, key)[i]}) {
					t.Fatal(shelves, i, f)
				}
			}
		}
	}
}

// Those that found no room find none, however often they are asked for; the others stay where they are.
func TestFindsTaken(t *testing.T) {
	for _, c := range configs {
		s := open(c)
		all := names(2*c.Shelves + 10)
		for _, key := range all {
			s.enter(t, key)
		}
		for range 3 {
			for i, key := range all {
				f := s.check(t, key)
				if i >= c.Shelves && f != (Found{Kind: 3}) || i < c.Shelves && f.Kind != Here {
					t.Fatal(c, i, f)
				}
				if s.enter(t, key) != (i < c.Shelves) {
					t.Fatal(c, i)
				}
			}
		}
	}
}

// A key that was not put is not found, however like it is to those that were.
func TestFindsNotOthers(t *testing.T) {
	for _, c := range configs {
		s := open(c)
		for _, key := range keys() {
			s.enter(t, key)
		}
		for _, key := range keys() {
			s.check(t, key)
			for _, other := range others(key) {
				s.check(t, other)
			}
		}
	}
}

// All keys of at most two bytes of two, put in all orders of four of them, on all counts of shelves up to five.
func TestFindsInAllOrders(t *testing.T) {
	all := []string{"", "a", "b", "aa", "ab", "ba", "bb"}
	for shelves := 1; shelves <= 5; shelves++ {
		for order := range 7 * 7 * 7 * 7 {
			s := open(api.Config{Cap: 1, Pins: 1, Shelves: shelves, Seed: uint64(order % 5)})
			for rest, n := order, 0; n < 4; n++ {
				s.enter(t, all[rest%7])
				rest /= 7
			}
			for _, key := range all {
				s.check(t, key)
			}
		}
	}
}

// The other cells, and other blocks, the ones of versions and the like, are of no matter, nor is the lock.
func TestFindsBesideOthers(t *testing.T) {
	for _, c := range configs {
		s := open(c)
		for i, key := range names(c.Shelves) {
			s.enter(t, key)
			b := s.heap.Make(3, key)
			s.heap.Store(b, 0, uint64(i))
			s.heap.Store(1, cellOf(c, i)+1, b)
			s.heap.Store(1, i%(3+c.Pins+c.Cap), b)
			if i%3 == 0 {
				s.heap.Drop(s.heap.Make(0, key))
			}
			if i%2 == 0 {
				s.heap.Lock()
			} else {
				s.heap.Unlock()
			}
		}
		for key := range s.shelves {
			s.check(t, key)
			s.check(t, key+"x")
		}
		if s.heap.Faults() != 0 {
			t.Fatal(s.heap.Faults())
		}
	}
}

// Several side by side on one heap, in any order: each finds what it finds alone.
func TestFindsSideBySide(t *testing.T) {
	r := rand.New(rand.NewSource(232))
	for range 300 {
		c := anyConfig(r)
		c.Shelves = 1 + r.Intn(8)
		s := open(c)
		all := names(10)
		for _, key := range all[:r.Intn(10)] {
			s.enter(t, key)
		}
		xs := make([]api.Routine, len(all))
		var picks []int
		for i, key := range all {
			xs[i] = New(c, key)
			for range 2 * c.Shelves {
				picks = append(picks, i)
			}
		}
		r.Shuffle(len(picks), func(i, j int) { picks[i], picks[j] = picks[j], picks[i] })
		was := look(s.heap)
		drive.Run(s.heap, xs, picks)
		for i, key := range all {
			want, _ := s.want(key)
			if f, is := xs[i].(*Find).Result(); f != want || !is {
				t.Fatal(c, i, f, is, want)
			}
		}
		if now := look(s.heap); now != was {
			t.Fatalf("the heap is %s, and was %s", now, was)
		}
	}
}

// What is put while it looks: on a shelf that it passed already it sees nothing of it; on one further on it does.
func TestFindsMeanwhile(t *testing.T) {
	h := control(small)
	put(h, small, 2, "b")
	x := New(small, "a")
	drive.Alone(h, x, 2)
	h.Store(1, cellOf(small, 2), 0)
	put(h, small, 0, "a")
	if n, is := drive.Alone(h, x, 10); n != 2 || !is {
		t.Fatal(n, is)
	}
	if f, is := x.Result(); f != (Found{Here, 0}) || !is {
		t.Fatal(f, is)
	}
	// A key's block is asked for its text, even if another one was put there since.
	h = control(small)
	b := put(h, small, 2, "a")
	x = New(small, "a")
	drive.Alone(h, x, 1)
	put(h, small, 2, "c")
	if a, more := x.Act(); a != (api.Act{Kind: api.Words, Block: b}) || !more {
		t.Fatal(a, more)
	}
	drive.Alone(h, x, 1)
	if f, is := x.Result(); f != (Found{Here, 2}) || !is {
		t.Fatal(f, is)
	}
}

// Any rows of keys that are put and looked for.
func TestFindsAny(t *testing.T) {
	r := rand.New(rand.NewSource(233))
	for range 300 {
		c := anyConfig(r)
		if r.Intn(3) > 0 {
			c.Shelves = 1 + r.Intn(9)
		}
		s := open(c)
		for range 60 {
			key := anyText(r, 1+r.Intn(2))
			if r.Intn(2) == 0 {
				s.check(t, key)
			} else {
				s.enter(t, key)
			}
		}
	}
}

// No heap: each load is answered nothing, and so the first shelf is free.
func TestFindsOnNoHeap(t *testing.T) {
	for _, c := range configs {
		x := New(c, "k")
		if n, is := drive.Alone(nil, x, 10); n != 1 || !is {
			t.Fatal(n, is)
		}
		ended(t, "no heap", x, Found{Free, wayOf(c, "k")[0]})
	}
}
