package drive

import (
	"fmt"
	"math"
	"math/rand"
	"slices"
	"strings"
	"testing"

	"philtre/act"
	"philtre/api"
	"philtre/heap"
)

// P19.1: Next

func TestExample(t *testing.T) {
	h := heap.New()
	h.Make(1, "")
	h.Lock()
	r := list(load(1, 0), lock)
	if n, done := Alone(h, r, 10); n != 1 || done {
		t.Fatal(n, done)
	}
	if len(r.got) != 1 || h.Faults() != 0 || !h.Locked() {
		t.Fatal(r.got, h.Faults(), h.Locked())
	}
}

func TestNextOfNil(t *testing.T) {
	for _, h := range []*heap.Heap{ground(), locked(), {}, nil} {
		nothing(t, "nil", h, nil)
	}
}

func TestNextOfDone(t *testing.T) {
	beside := func(x api.Act) *chooser {
		return choose(func([]api.Got) (api.Act, bool) { return x, false })
	}
	for what, r := range map[string]api.Routine{
		"a list":                   list(),
		"a struct":                 value{within: list()},
		"a number":                 number(0),
		"a nil pointer":            (*acts)(nil),
		"an empty list":            &acts{},
		"a Store beside":           beside(store(1, 0, 9)),
		"a Lock beside":            beside(lock),
		"a Drop beside":            beside(api.Act{Kind: api.Drop, Block: 1}),
		"one that may not, beside": beside(api.Act{Kind: 11, Text: "x"}),
		"a fault beside":           beside(load(99, 0)),
	} {
		for _, h := range []*heap.Heap{ground(), locked(), {}, nil} {
			nothing(t, what, h, r)
		}
		if c, is := r.(*chooser); is && len(c.got) > 0 {
			t.Fatal(what, c.got)
		}
	}
}

func TestNextOfStuck(t *testing.T) {
	for _, c := range []struct {
		what string
		h    *heap.Heap
		x    api.Act
	}{
		{"the lock is taken", locked(), lock},
		{"a cell with 0", ground(), await(1, 0)},
		{"the last cell with 0", ground(), await(1, 2)},
		{"a cell with 0, locked", locked(), await(1, 2)},
		{"no such cell", ground(), await(1, 3)},
		{"a cell far away", ground(), await(4, math.MaxInt)},
		{"a block without a cell", ground(), await(2, 0)},
		{"a block that was dropped", ground(), await(3, 0)},
		{"a block that was never there", ground(), await(5, 0)},
		{"the block 0", ground(), await(0, 0)},
		{"the last block of all", ground(), await(math.MaxUint64, 0)},
		{"an empty heap", heap.New(), await(1, 0)},
		{"a plain heap", &heap.Heap{}, await(1, 0)},
		{"a nil heap's lock", nil, lock},
		{"a nil heap's cell", nil, await(1, 0)},
	} {
		r := list(c.x, store(1, 0, 3))
		nothing(t, c.what, c.h, r)
		nothing(t, c.what, c.h, value{within: r})
		if len(r.got) != 0 {
			t.Fatal(c.what, r.got)
		}
	}
}

// One of each kind, of what is there and of what is not, with what it is answered.
func TestNextOfReady(t *testing.T) {
	for _, c := range []struct {
		x    api.Act
		want api.Got
		turn func(h *heap.Heap)
	}{
		{none, api.Got{}, nil},
		{load(1, 1), api.Got{Word: 5}, nil},
		{load(1, 0), api.Got{}, nil},
		{store(1, 0, 9), api.Got{}, func(h *heap.Heap) { h.Store(1, 0, 9) }},
		{swap(1, 1, 5, 6), api.Got{Word: 5}, func(h *heap.Heap) { h.Store(1, 1, 6) }},
		{swap(1, 1, 4, 6), api.Got{Word: 5}, nil},
		{bump(4, 0, math.MaxUint64), api.Got{Word: 7}, func(h *heap.Heap) { h.Store(4, 0, 6) }},
		{api.Act{Kind: api.Make, Cell: 2, Text: "new"}, api.Got{Word: 5}, func(h *heap.Heap) { h.Make(2, "new") }},
		{api.Act{Kind: api.Make, Cell: 257}, api.Got{}, nil},
		{api.Act{Kind: api.Words, Block: 4}, api.Got{Text: "four"}, nil},
		{api.Act{Kind: api.Drop, Block: 1}, api.Got{}, func(h *heap.Heap) { h.Drop(1) }},
		{lock, api.Got{Word: 1}, func(h *heap.Heap) { h.Lock() }},
		{unlock, api.Got{}, func(h *heap.Heap) { h.Unlock() }},
		{await(1, 1), api.Got{Word: 5}, nil},
		{await(4, 0), api.Got{Word: 7}, nil},
		{load(3, 0), api.Got{}, func(h *heap.Heap) { h.Load(3, 0) }},
		{load(1, 3), api.Got{}, func(h *heap.Heap) { h.Load(1, 3) }},
		{store(9, 0, 1), api.Got{}, func(h *heap.Heap) { h.Load(9, 0) }},
		{api.Act{Kind: api.Words, Block: 3}, api.Got{}, func(h *heap.Heap) { h.Words(3) }},
		{api.Act{Kind: api.Drop, Block: 3}, api.Got{}, func(h *heap.Heap) { h.Drop(3) }},
	} {
		h, want := ground(), ground()
		if c.turn != nil {
			c.turn(want)
		}
		r := list(c.x, c.x)
		s, is := Next(h, r)
		if s != (Step{Who: 0, Act: c.x, Got: c.want}) || !is {
			t.Fatalf("%+v: %+v, %v", c.x, s, is)
		}
		if !slices.Equal(r.got, []api.Got{c.want}) {
			t.Fatalf("%+v: it took %+v", c.x, r.got)
		}
		sameHeap(t, act.Text(c.x), h, want)
	}
}

// Of an act that may not be nothing is done, and the routine goes on.
func TestNextOfWrongActs(t *testing.T) {
	wrong := append(slices.Clone(wrongActs), api.Act{Kind: api.Make, Text: strings.Repeat("x", 4097)})
	for _, x := range wrong {
		for _, h := range []*heap.Heap{ground(), locked(), {}, nil} {
			was := look(h)
			r := list(x)
			if s, is := Next(h, r); s != (Step{Act: x}) || !is {
				t.Fatalf("%+v: %+v, %v", x, s, is)
			}
			if !slices.Equal(r.got, []api.Got{{}}) || look(h) != was {
				t.Fatalf("%+v: it took %+v, the heap is %s, and was %s", x, r.got, look(h), was)
			}
			nothing(t, "behind it", h, r)
		}
	}
}

// A nil heap answers nothing, and a routine goes on all the same, but at a Lock or an Await.
func TestNextOfNilHeap(t *testing.T) {
	l := []api.Act{none, load(1, 0), store(1, 0, 1), swap(1, 0, 0, 1), bump(1, 0, 1), {Kind: api.Make, Cell: 1, Text: "x"}, {Kind: api.Words, Block: 1}, {Kind: api.Drop, Block: 1}, unlock}
	r := list(append(slices.Clone(l), lock, none)...)
	for _, x := range l {
		if s, is := Next(nil, r); s != (Step{Act: x}) || !is {
			t.Fatalf("%+v: %+v, %v", x, s, is)
		}
	}
	nothing(t, "the lock", nil, r)
	if n, done := Alone(nil, r, 5); n != 0 || done || len(r.got) != len(l) {
		t.Fatal(n, done, r.got)
	}
}

func TestPlainHeap(t *testing.T) {
	for _, h := range []*heap.Heap{heap.New(), {}} {
		r := list(lock, api.Act{Kind: api.Make, Cell: 1, Text: "x"}, bump(1, 0, 3), await(1, 0), unlock, await(1, 0), await(2, 0))
		same(t, "a plain heap", all(h, r, 10), []Step{
			{0, lock, api.Got{Word: 1}}, {0, r.acts[1], api.Got{Word: 1}}, {0, r.acts[2], api.Got{}}, {0, r.acts[3], api.Got{Word: 3}}, {0, unlock, api.Got{}}, {0, r.acts[5], api.Got{Word: 3}},
		})
		if h.Locked() || h.Faults() != 0 {
			t.Fatal(look(h))
		}
	}
}

// A routine that waited goes on once it may.
func TestNextBehindWaiting(t *testing.T) {
	h := locked()
	r := list(lock, await(1, 0), unlock)
	nothing(t, "locked", h, r)
	h.Unlock()
	if s, is := Next(h, r); s != (Step{0, lock, api.Got{Word: 1}}) || !is || !h.Locked() {
		t.Fatal(s, is)
	}
	nothing(t, "0", h, r)
	h.Store(1, 0, 8)
	if s, is := Next(h, r); s != (Step{0, await(1, 0), api.Got{Word: 8}}) || !is {
		t.Fatal(s, is)
	}
	if s, is := Next(h, r); s != (Step{0, unlock, api.Got{}}) || !is || h.Locked() || h.Faults() != 0 {
		t.Fatal(s, is, look(h))
	}
	nothing(t, "done", h, r)
}

// A routine is handed its answer when its act is done, and its act is done behind being told.
func TestNextInOrder(t *testing.T) {
	h := ground()
	var seen []string
	r := functions{
		func() (api.Act, bool) {
			w, _ := h.Load(1, 0)
			seen = append(seen, fmt.Sprint("act at ", w))
			return bump(1, 0, 2), true
		},
		func(g api.Got) {
			w, _ := h.Load(1, 0)
			seen = append(seen, fmt.Sprint("took ", g.Word, " at ", w))
		},
	}
	for range 2 {
		seen = nil
		w, _ := h.Load(1, 0)
		if s, is := Next(h, r); s != (Step{0, bump(1, 0, 2), api.Got{Word: w}}) || !is {
			t.Fatal(s, is)
		}
		if got, want := fmt.Sprint(seen), fmt.Sprintf("[act at %d took %d at %d]", w, w, w+2); got != want {
			t.Fatalf("%s, and not %s", got, want)
		}
	}
}

// Routines of all kinds of types.
func TestNextOfTypes(t *testing.T) {
	l := []api.Act{bump(1, 1, 1), {Kind: api.Words, Block: 4}}
	own := acts(slices.Clone(l))
	within := list(l...)
	at := 0
	for what, r := range map[string]api.Routine{
		"a pointer":   list(l...),
		"a struct":    value{within: within},
		"its pointer": &value{within: list(l...)},
		"a list":      &own,
		"functions":   functions{func() (api.Act, bool) { return append(slices.Clone(l), none)[at], at < 2 }, func(api.Got) { at++ }},
	} {
		h := ground()
		same(t, what, all(h, r, 9), []Step{{0, l[0], api.Got{Word: 5}}, {0, l[1], api.Got{Text: "four"}}})
		nothing(t, what, h, r)
		if w, _ := h.Load(1, 1); w != 6 {
			t.Fatal(what, w)
		}
	}
	if !slices.Equal(within.got, []api.Got{{Word: 5}, {Text: "four"}}) {
		t.Fatal(within.got)
	}
}

// One that panics when it is asked for its act has none, and is not done either.
func TestPanicsOfAct(t *testing.T) {
	for what, r := range panics() {
		for _, h := range []*heap.Heap{ground(), locked(), {}, nil} {
			nothing(t, what, h, r)
			for _, most := range []int{-1, 0, 1, 5} {
				if n, done := Alone(h, r, most); n != 0 || done {
					t.Fatal(what, n, done)
				}
				same(t, what, all(h, r, most), nil)
			}
			same(t, what, Run(h, []api.Routine{r, r}, []int{0, 1, 0}), nil)
		}
	}
}

// One that panics when it is handed its answer has done its act.
func TestPanicsOfTake(t *testing.T) {
	h := ground()
	asked := 0
	r := functions{
		func() (api.Act, bool) { return bump(1, 0, 1), asked < 3 },
		func(api.Got) {
			asked++
			panic("text")
		},
	}
	if s, is := Next(h, r); s != (Step{0, bump(1, 0, 1), api.Got{}}) || !is || asked != 1 {
		t.Fatal(s, is, asked)
	}
	if n, done := Alone(h, r, 9); n != 2 || !done || asked != 3 {
		t.Fatal(n, done, asked)
	}
	if w, _ := h.Load(1, 0); w != 3 {
		t.Fatal(w)
	}
	if s, is := Next(h, functions{act: r.act}); is {
		t.Fatal(s)
	}
	if s, is := Next(h, functions{act: func() (api.Act, bool) { return load(1, 0), true }}); s != (Step{0, load(1, 0), api.Got{Word: 3}}) || !is {
		t.Fatal(s, is)
	}
}

// P19.1: Steps and Alone

var mosts = []int{math.MinInt, -1 << 32, -2, -1, 0, 1, 2, 3, 4, 5, 6, 7, 8, 100, 1 << 32, math.MaxInt}

// Rows of acts that come to their end, and some that wait on the way, with each most.
func TestStepsAndAlone(t *testing.T) {
	for _, c := range []struct {
		what string
		acts []api.Act
		does int
	}{
		{"none", nil, 0},
		{"one", []api.Act{bump(1, 0, 1)}, 1},
		{"three", []api.Act{bump(1, 0, 1), load(1, 0), unlock}, 3},
		{"five", []api.Act{lock, bump(1, 0, 1), await(1, 0), unlock, none}, 5},
		{"seven, two of which may not be", []api.Act{store(1, 2, 3), {Kind: 11}, bump(1, 2, 4), {Kind: api.Lock, Text: "x"}, load(9, 9), none, await(1, 2)}, 7},
		{"stuck at once", []api.Act{await(1, 0), store(1, 0, 1)}, 0},
		{"stuck behind two", []api.Act{lock, bump(1, 1, 1), lock, unlock}, 2},
		{"stuck behind four", []api.Act{store(1, 1, 1), await(1, 1), store(1, 1, 0), load(1, 1), await(1, 1)}, 4},
		{"stuck at a dropped one", []api.Act{{Kind: api.Drop, Block: 4}, await(4, 0), none}, 1},
	} {
		for _, most := range mosts {
			what := fmt.Sprintf("%s, %d at most", c.what, most)
			n := max(0, min(c.does, most))
			h, want := ground(), ground()
			var steps []Step
			for _, x := range c.acts[:n] {
				steps = append(steps, Step{0, x, act.Do(want, x)})
			}
			r := list(c.acts...)
			same(t, what, all(h, r, most), steps)
			sameHeap(t, what, h, want)
			if !slices.Equal(r.got, gots(steps)) {
				t.Fatalf("%s: it took %+v", what, r.got)
			}
			h, r = ground(), list(c.acts...)
			if got, done := Alone(h, r, most); got != n || done != (n == len(c.acts)) {
				t.Fatalf("%s: %d, %v", what, got, done)
			}
			sameHeap(t, what, h, want)
			if !slices.Equal(r.got, gots(steps)) {
				t.Fatalf("%s: it took %+v", what, r.got)
			}
		}
	}
}

func TestOfNil(t *testing.T) {
	for _, h := range []*heap.Heap{ground(), locked(), {}, nil} {
		was := look(h)
		for _, most := range mosts {
			if n, done := Alone(h, nil, most); n != 0 || done {
				t.Fatal(n, done)
			}
			if Steps(h, nil, most) == nil {
				t.Fatal("no function")
			}
			same(t, "nil", all(h, nil, most), nil)
		}
		if look(h) != was {
			t.Fatal(look(h), was)
		}
	}
}

// Whatever is handed in, there is a function.
func TestStepsAreNeverNil(t *testing.T) {
	for _, h := range []*heap.Heap{ground(), nil} {
		for _, r := range []api.Routine{nil, (*listed)(nil), (*acts)(nil), list(), forever(1, 0)} {
			for _, most := range mosts {
				if Steps(h, r, most) == nil {
					t.Fatal("nil")
				}
			}
		}
	}
}

// One that is done just when most is reached is done; one that has an act left, whatever act, is not.
func TestAloneIsDone(t *testing.T) {
	for n := range 6 {
		l := slices.Repeat([]api.Act{bump(1, 0, 1)}, n)
		for _, c := range []struct {
			more []api.Act
			done bool
		}{{nil, true}, {[]api.Act{none}, false}, {[]api.Act{lock}, false}, {[]api.Act{await(1, 2)}, false}, {[]api.Act{{Kind: 11}}, false}, {[]api.Act{load(1, 0), load(1, 0)}, false}} {
			for _, h := range []*heap.Heap{ground(), locked()} {
				r := list(slices.Concat(l, c.more)...)
				if got, done := Alone(h, r, n); got != n || done != c.done {
					t.Fatal(n, c.more, got, done)
				}
				if w, _ := h.Load(1, 0); w != uint64(n) || len(r.got) != n {
					t.Fatal(n, c.more, w, r.got)
				}
			}
		}
	}
	for _, most := range mosts {
		if n, done := Alone(ground(), number(0), most); n != 0 || !done {
			t.Fatal(n, done)
		}
		if n, done := Alone(ground(), choose(func([]api.Got) (api.Act, bool) { return lock, false }), most); n != 0 || !done {
			t.Fatal(n, done)
		}
	}
}

func TestForEver(t *testing.T) {
	for _, most := range []int{-5, 0, 1, 2, 3, 1000, 70000} {
		n := max(0, most)
		h := ground()
		if got, done := Alone(h, number(1), most); got != n || done {
			t.Fatal(most, got, done)
		}
		if w, _ := h.Load(1, 0); w != uint64(n) {
			t.Fatal(most, w)
		}
		l := all(h, number(1), most)
		if w, _ := h.Load(1, 0); w != uint64(2*n) || len(l) != n {
			t.Fatal(most, w, len(l))
		}
		for i, s := range l {
			if s != (Step{0, bump(1, 0, 1), api.Got{Word: uint64(n + i)}}) {
				t.Fatal(i, s)
			}
		}
	}
	same(t, "of acts that may not be", all(nil, choose(func([]api.Got) (api.Act, bool) { return api.Act{Kind: 12}, true }), 3), slices.Repeat([]Step{{Act: api.Act{Kind: 12}}}, 3))
}

// Nothing is done by the call alone, and no more than was told by a range that is left.
func TestStepsAreLeft(t *testing.T) {
	for _, most := range []int{1, 2, 3, 5, 6, 7, 100, math.MaxInt} {
		for leave := 1; leave <= 6; leave++ {
			r := list(slices.Repeat([]api.Act{bump(1, 0, 1)}, 6)...)
			h := ground()
			steps := Steps(h, r, most)
			if w, _ := h.Load(1, 0); w != 0 || len(r.got) != 0 {
				t.Fatal(w, r.got)
			}
			told := 0
			for s := range steps {
				told++
				if w, _ := h.Load(1, 0); w != uint64(told) || s.Got.Word+1 != w || len(r.got) != told {
					t.Fatalf("%d of %d: the cell has %d, %+v, it took %+v", told, most, w, s, r.got)
				}
				if told == leave {
					break
				}
			}
			want := min(leave, most)
			if w, _ := h.Load(1, 0); told != want || w != uint64(want) || len(r.got) != want {
				t.Fatalf("%d at most, left at %d: %d were told, the cell has %d", most, leave, told, w)
			}
		}
	}
}

// What the routine and the heap are when a range begins counts, not what they were at the call.
func TestStepsBehindTheCall(t *testing.T) {
	h, r := locked(), list()
	steps := Steps(h, r, 3)
	for s := range steps {
		t.Fatal(s)
	}
	r.acts = []api.Act{lock, unlock}
	for s := range steps {
		t.Fatal(s)
	}
	h.Unlock()
	n := 0
	for s := range steps {
		if s.Act != r.acts[n] {
			t.Fatal(s)
		}
		n++
	}
	if n != 2 || h.Locked() {
		t.Fatal(n)
	}
	Steps(h, functions{act: func() (api.Act, bool) {
		t.Fatal("asked by the call alone")
		return none, false
	}}, 3)
}

func TestStepsAreLeftAtOnce(t *testing.T) {
	for _, most := range []int{1, 2, 100, math.MaxInt} {
		h := ground()
		told := 0
		Steps(h, forever(1, 0), most)(func(Step) bool {
			told++
			return false
		})
		if w, _ := h.Load(1, 0); w != 1 || told != 1 {
			t.Fatal(most, w, told)
		}
	}
}

// Each range goes on where the routine stands, by as many again.
func TestStepsTwice(t *testing.T) {
	l := []api.Act{bump(1, 0, 1), bump(1, 0, 2), bump(1, 0, 3), bump(1, 0, 4), bump(1, 0, 5)}
	for most := range 8 {
		h, r := ground(), list(l...)
		k := &reckoned{acts: l}
		want := ground()
		steps := Steps(h, r, most)
		for range 4 {
			var got []Step
			for s := range steps {
				got = append(got, s)
			}
			told, _ := k.alone(want, most)
			same(t, fmt.Sprint(most), got, told)
			sameHeap(t, fmt.Sprint(most), h, want)
		}
	}
}

func TestStepsTwiceWhenLeft(t *testing.T) {
	h, r := ground(), list(slices.Repeat([]api.Act{bump(1, 0, 1)}, 7)...)
	steps := Steps(h, r, 3)
	var words []uint64
	for s := range steps {
		words = append(words, s.Got.Word)
		if len(words) == 2 {
			break
		}
	}
	for s := range steps {
		words = append(words, s.Got.Word)
	}
	if !slices.Equal(words, []uint64{0, 1, 2, 3, 4}) {
		t.Fatal(words)
	}
	for s := range steps {
		words = append(words, s.Got.Word)
	}
	if !slices.Equal(words, []uint64{0, 1, 2, 3, 4, 5, 6}) {
		t.Fatal(words)
	}
}

// A range that came to an end at a stuck one goes on, once it is stuck no more.
func TestStepsBehindWaiting(t *testing.T) {
	h, r := ground(), list(load(1, 1), await(1, 0), load(1, 0))
	steps := Steps(h, r, 10)
	n := 0
	for range steps {
		n++
	}
	for range steps {
		n++
	}
	if n != 1 {
		t.Fatal(n)
	}
	h.Store(1, 0, 4)
	for s := range steps {
		if n++; s.Got.Word != 4 {
			t.Fatal(s)
		}
	}
	if n != 3 {
		t.Fatal(n)
	}
}

// What is done on the heap within a range counts, and another Next of the same routine too.
func TestStepsWithinOthers(t *testing.T) {
	h := ground()
	r := list(await(1, 1), await(1, 0), load(1, 0), load(1, 0))
	var got []Step
	for s := range Steps(h, r, 5) {
		got = append(got, s)
		h.Bump(1, 0, 1)
		if len(got) == 2 {
			Next(h, r)
		}
	}
	same(t, "within", got, []Step{{0, r.acts[0], api.Got{Word: 5}}, {0, r.acts[1], api.Got{Word: 1}}, {0, r.acts[3], api.Got{Word: 2}}})
}

// A range's own panic is its own.
func TestPanicsOfARange(t *testing.T) {
	h := ground()
	defer func() {
		if what := recover(); what != "mine" {
			t.Fatal(what)
		}
		if w, _ := h.Load(1, 0); w != 1 {
			t.Fatal(w)
		}
	}()
	for range Steps(h, forever(1, 0), 5) {
		panic("mine")
	}
}

// Routines whose acts hang on what they were answered.
func TestOfAnswers(t *testing.T) {
	h := ground()
	text := "a text"
	same(t, "maker", all(h, maker(text), 9), []Step{
		{0, api.Act{Kind: api.Make, Cell: 2, Text: text}, api.Got{Word: 5}},
		{0, api.Act{Kind: api.Words, Block: 5}, api.Got{Text: text}},
		{0, store(5, 1, 6), api.Got{}},
		{0, load(5, 1), api.Got{Word: 6}},
		{0, api.Act{Kind: api.Drop, Block: 5}, api.Got{}},
	})
	for most := range 8 {
		h := ground()
		if n, done := Alone(h, maker(text), most); n != min(most, 5) || done != (most >= 5) {
			t.Fatal(most, n, done)
		}
		if len(h.Blocks()) != 3 && (most == 0 || most > 4) || h.Faults() != 0 {
			t.Fatal(most, look(h))
		}
	}
	same(t, "spinner", all(h, spinner(1), 9), []Step{{0, swap(1, 0, 0, 1), api.Got{}}, {0, load(1, 1), api.Got{Word: 5}}, {0, bump(1, 1, 1), api.Got{Word: 5}}, {0, store(1, 0, 0), api.Got{}}})
	h.Store(1, 0, 1)
	if n, done := Alone(h, spinner(1), 50); n != 50 || done {
		t.Fatal(n, done)
	}
	same(t, "on a nil heap", all(nil, maker(text), 9), []Step{
		{Act: api.Act{Kind: api.Make, Cell: 2, Text: text}}, {Act: api.Act{Kind: api.Words}}, {Act: store(0, 1, 0)}, {Act: load(0, 1)}, {Act: api.Act{Kind: api.Drop}},
	})
}

// Any rows of acts, by Next, by Steps and by Alone, against the reckoning.
func TestAnyActs(t *testing.T) {
	r := rand.New(rand.NewSource(191))
	ended, waited := 0, 0
	for range 20000 {
		l, most := anyActs(r, r.Intn(8)), r.Intn(10)-1
		h := anyHeap(r)
		byNext, byAlone, want := h.Copy(), h.Copy(), h.Copy()
		k := &reckoned{acts: l}
		steps, done := k.alone(want, most)
		if done {
			ended++
		} else if most > len(steps) {
			waited++
		}
		what := fmt.Sprintf("%+v, %d at most", l, most)
		a, b, c := list(l...), list(l...), list(l...)
		same(t, what, all(h, a, most), steps)
		sameHeap(t, what, h, want)
		var nexts []Step
		for len(nexts) < most {
			s, is := Next(byNext, b)
			if !is {
				break
			}
			nexts = append(nexts, s)
		}
		same(t, what, nexts, steps)
		sameHeap(t, what, byNext, want)
		if n, is := Alone(byAlone, c, most); n != len(steps) || is != done {
			t.Fatalf("%s: %d, %v, and not %d, %v", what, n, is, len(steps), done)
		}
		sameHeap(t, what, byAlone, want)
		for _, r := range []*listed{a, b, c} {
			if !slices.Equal(r.got, gots(steps)) {
				t.Fatalf("%s: it took %+v, and not %+v", what, r.got, gots(steps))
			}
		}
	}
	if ended < 4000 || waited < 4000 {
		t.Fatal(ended, waited)
	}
}

// P19.2

func TestRunOfNothing(t *testing.T) {
	for _, h := range []*heap.Heap{ground(), locked(), {}, nil} {
		was := look(h)
		r := list(bump(1, 0, 1))
		for _, c := range []struct {
			rs    []api.Routine
			picks []int
		}{
			{nil, nil}, {[]api.Routine{}, []int{}}, {nil, []int{0, 1, -1}}, {[]api.Routine{}, []int{0}}, {[]api.Routine{r}, nil}, {[]api.Routine{r}, []int{}},
			{[]api.Routine{r, r}, []int{-1, 2, 3, math.MinInt, math.MaxInt, 1 << 32, -1 << 32, -2}},
			{[]api.Routine{r}, []int{1, 1 << 32, -1 << 63}}, {make([]api.Routine, 0, 5), []int{0, 4}}, {[]api.Routine{r}[:0], []int{0}},
			{[]api.Routine{nil, nil}, []int{0, 1, 0, 2}}, {[]api.Routine{list(), number(0), nil}, []int{0, 1, 2, 0}},
		} {
			if l := Run(h, c.rs, c.picks); len(l) != 0 {
				t.Fatal(c.picks, l)
			}
		}
		if look(h) != was || len(r.got) != 0 {
			t.Fatal(look(h), was, r.got)
		}
	}
}

func TestRun(t *testing.T) {
	h := ground()
	a := list(bump(1, 0, 1), bump(1, 0, 2), load(1, 0))
	b := list(bump(1, 0, 10), load(1, 0))
	c := list(load(1, 0), load(1, 1))
	same(t, "three", Run(h, []api.Routine{a, b, c}, []int{2, 1, 0, 0, 3, 1, -1, 2, 2, 0, 0, 1}), []Step{
		{2, load(1, 0), api.Got{}}, {1, bump(1, 0, 10), api.Got{}}, {0, bump(1, 0, 1), api.Got{Word: 10}}, {0, bump(1, 0, 2), api.Got{Word: 11}},
		{1, load(1, 0), api.Got{Word: 13}}, {2, load(1, 1), api.Got{Word: 5}}, {0, load(1, 0), api.Got{Word: 13}},
	})
	if !slices.Equal(a.got, []api.Got{{Word: 10}, {Word: 11}, {Word: 13}}) || !slices.Equal(b.got, []api.Got{{}, {Word: 13}}) || !slices.Equal(c.got, []api.Got{{}, {Word: 5}}) {
		t.Fatal(a.got, b.got, c.got)
	}
}

// Those that are nil, done and stuck do nothing, and are of no matter to others.
func TestRunAmongOthers(t *testing.T) {
	for what, broken := range panics() {
		h := locked()
		r := list(bump(1, 0, 1), bump(1, 0, 1))
		rs := []api.Routine{nil, list(), list(lock), r, list(await(1, 2)), value{within: list(await(9, 9))}, number(0), broken}
		same(t, what, Run(h, rs, []int{0, 1, 2, 7, 3, 4, 5, 6, 8, 0, 1, 2, 3, 7, 4, 5, 3, 6}), []Step{{3, bump(1, 0, 1), api.Got{}}, {3, bump(1, 0, 1), api.Got{Word: 1}}})
		if h.Faults() != 0 || !h.Locked() {
			t.Fatal(look(h))
		}
	}
}

// One that is stuck goes on when another one unlocks, or stores.
func TestRunOfWaiting(t *testing.T) {
	h := ground()
	a := list(lock, store(1, 0, 3), unlock)
	b := list(lock, unlock)
	c := list(await(1, 0), store(1, 0, 0))
	d := list(await(1, 0))
	same(t, "waiting", Run(h, []api.Routine{a, b, c, d}, []int{2, 0, 1, 2, 3, 0, 1, 2, 2, 3, 1, 0, 0, 3, 1, 1, 1}), []Step{
		{0, lock, api.Got{Word: 1}}, {0, store(1, 0, 3), api.Got{}}, {2, await(1, 0), api.Got{Word: 3}}, {2, store(1, 0, 0), api.Got{}},
		{0, unlock, api.Got{}}, {1, lock, api.Got{Word: 1}}, {1, unlock, api.Got{}},
	})
	if len(d.got) != 0 || h.Locked() || h.Faults() != 0 {
		t.Fatal(d.got, look(h))
	}
}

// The same routine under two numbers is one, and goes on by either.
func TestRunOfTheSame(t *testing.T) {
	h := ground()
	r := list(bump(1, 0, 1), bump(1, 0, 2), bump(1, 0, 4), bump(1, 0, 8))
	same(t, "the same", Run(h, []api.Routine{r, nil, r, value{within: r}}, []int{2, 0, 1, 3, 2, 0}), []Step{
		{2, r.acts[0], api.Got{}}, {0, r.acts[1], api.Got{Word: 1}}, {3, r.acts[2], api.Got{Word: 3}}, {2, r.acts[3], api.Got{Word: 7}},
	})
}

// Two that spin for one cell: never are both within.
func TestRunOfSpinners(t *testing.T) {
	r := rand.New(rand.NewSource(192))
	for range 500 {
		h := ground()
		rs := []api.Routine{spinner(1), spinner(1), spinner(1)}
		var picks []int
		for range 40 {
			picks = append(picks, r.Intn(4)-r.Intn(2))
		}
		within := -1
		for _, s := range Run(h, rs, picks) {
			switch {
			case s.Act.Kind == api.Swap && s.Got.Word == 0:
				if within >= 0 {
					t.Fatal(picks)
				}
				within = s.Who
			case s.Act.Kind != api.Swap && s.Who != within:
				t.Fatal(picks, s)
			case s.Act.Kind == api.Store:
				within = -1
			}
		}
		Run(h, rs, slices.Repeat([]int{0, 1, 2}, 40))
		if w, _ := h.Load(1, 1); w != 8 {
			t.Fatal(picks, look(h))
		}
	}
}

// Each row of six picks of three that share the lock and a cell.
func TestRunOfAllPicks(t *testing.T) {
	lists := [][]api.Act{{lock, store(1, 0, 1), unlock}, {await(1, 0), lock, store(1, 0, 0), unlock}, {lock, unlock}}
	const width = 5 // numbers from -1 to 3
	for which := range width * width * width * width * width * width {
		var picks []int
		for rest, i := which, 0; i < 6; rest, i = rest/width, i+1 {
			picks = append(picks, rest%width-1)
		}
		runAgainst(t, ground(), lists, picks)
	}
}

// runAgainst holds a run of routines that list their acts against the reckoning.
func runAgainst(t *testing.T, h *heap.Heap, lists [][]api.Act, picks []int) []Step {
	t.Helper()
	want := h.Copy()
	var rs []api.Routine
	ks := make([]reckoned, len(lists))
	took := make([][]api.Got, len(lists))
	for i, l := range lists {
		rs = append(rs, list(l...))
		ks[i].acts = l
	}
	var steps []Step
	for _, p := range picks {
		for i := range ks {
			if i != p {
				continue
			}
			if s, is := ks[i].next(want); is {
				steps = append(steps, Step{i, s.Act, s.Got})
				took[i] = append(took[i], s.Got)
			}
		}
	}
	what := fmt.Sprintf("%+v, picked %v", lists, picks)
	got := Run(h, rs, picks)
	same(t, what, got, steps)
	sameHeap(t, what, h, want)
	for i, r := range rs {
		if !slices.Equal(r.(*listed).got, took[i]) {
			t.Fatalf("%s: %d took %+v", what, i, r.(*listed).got)
		}
	}
	return got
}

func TestRunOfAny(t *testing.T) {
	r := rand.New(rand.NewSource(193))
	did := 0
	for range 10000 {
		var lists [][]api.Act
		for range r.Intn(5) {
			lists = append(lists, anyActs(r, r.Intn(7)))
		}
		var picks []int
		for range r.Intn(30) {
			picks = append(picks, r.Intn(len(lists)+2)-1)
		}
		did += len(runAgainst(t, anyHeap(r), lists, picks))
	}
	if did < 20000 {
		t.Fatal(did)
	}
}

// Many routines, and many picks.
func TestRunOfMany(t *testing.T) {
	h := ground()
	var rs []api.Routine
	var picks []int
	for i := range 300 {
		rs = append(rs, forever(1, i%2))
	}
	for i := range 70000 {
		picks = append(picks, i*7%301)
	}
	l := Run(h, rs[:100:100], picks)
	n := 0
	for _, p := range picks {
		if p >= 100 {
			continue
		}
		if l[n].Who != p || l[n].Act != bump(1, p%2, 1) {
			t.Fatal(n, l[n])
		}
		n++
	}
	a, _ := h.Load(1, 0)
	b, _ := h.Load(1, 1)
	if len(l) != n || a+b != uint64(n+5) {
		t.Fatal(len(l), n, a, b)
	}
}

// P19.3

// Picks of one alone are as Steps.
func TestAlone(t *testing.T) {
	r := rand.New(rand.NewSource(194))
	for range 3000 {
		l := anyActs(r, r.Intn(8))
		h := anyHeap(r)
		lone := h.Copy()
		n, who := r.Intn(12), r.Intn(4)
		rs := []api.Routine{forever(1, 0), list(lock), nil, forever(2, 0)}
		own := list(l...)
		rs[who] = own
		steps := all(lone, list(l...), n)
		what := fmt.Sprintf("%+v, picked %d times", l, n)
		same(t, what, Run(h, rs, slices.Repeat([]int{who}, n)), whose(who, steps))
		sameHeap(t, what, h, lone)
		if !slices.Equal(own.got, gots(steps)) {
			t.Fatalf("%s: it took %+v", what, own.got)
		}
	}
}

func TestAloneOfAnswers(t *testing.T) {
	for _, of := range []func() api.Routine{
		func() api.Routine { return maker("text") },
		func() api.Routine { return spinner(1) },
		func() api.Routine { return value{within: list(bump(1, 0, 1), lock, await(1, 0), lock)} },
		func() api.Routine { return forever(1, 2) },
		func() api.Routine { return number(3) },
		func() api.Routine { return number(0) },
		func() api.Routine { return nil },
	} {
		for n := range 9 {
			for _, h := range []*heap.Heap{ground(), locked(), {}, nil} {
				lone, counted := h.Copy(), h.Copy()
				steps := all(lone, of(), n)
				same(t, fmt.Sprint(n), Run(h, []api.Routine{nil, of()}, slices.Repeat([]int{1}, n)), whose(1, steps))
				sameHeap(t, fmt.Sprint(n), h, lone)
				if got, _ := Alone(counted, of(), n); got != len(steps) {
					t.Fatal(n, got)
				}
				sameHeap(t, fmt.Sprint(n), counted, lone)
			}
		}
	}
}

// New memory

// What is handed in stays as it is, spare room too, and what is handed out is nobody else's.
func TestNothingIsKept(t *testing.T) {
	h := ground()
	a, b := list(slices.Repeat([]api.Act{bump(1, 0, 1)}, 9)...), list(slices.Repeat([]api.Act{load(1, 0)}, 9)...)
	rs := []api.Routine{a, b, nil, b, a}[:3]
	picks := []int{0, 1, 2, 5, 0, 1, 1, 1, 1}[:5]
	wereRs, werePicks := slices.Clone(rs[:5]), slices.Clone(picks[:9])
	wereActs := slices.Clone(a.acts)
	first := Run(h, rs, picks)
	was := slices.Clone(first)
	second := Run(h, rs, picks)
	kept(t, "routines", rs, wereRs)
	kept(t, "picks", picks, werePicks)
	kept(t, "acts", a.acts, wereActs)
	_ = append(second[:0], Step{Who: 99})
	_ = append(second, Step{Who: 98})
	picks[0], rs[0] = 1, nil
	same(t, "the first", first, was)
	_ = append(first, Step{Who: 97})
	first[1] = Step{Who: 96}
	if third := Run(h, rs, picks); len(third) != 2 || third[0].Who != 1 || third[0].Got.Word != 4 {
		t.Fatal(third)
	}
}

// What a call answers hangs on the heap and the routine alone: not on what was called ahead of it.
func TestNothingIsRemembered(t *testing.T) {
	answers := func() string {
		h := ground()
		n, done := Alone(h, list(lock, bump(1, 0, 1)), 9)
		return fmt.Sprint(n, done, all(h, list(load(1, 0), lock), 2), Run(h, []api.Routine{list(unlock), list(lock)}, []int{1, 0, 1}), look(h))
	}
	was := answers()
	for _, h := range []*heap.Heap{ground(), locked(), {}, nil} {
		Alone(h, forever(1, 0), 5)
		Run(h, []api.Routine{forever(1, 1), nil}, []int{0, 1, 0})
		for what := range panics() {
			Next(h, panics()[what])
		}
		if is := answers(); is != was {
			t.Fatalf("%s, and not %s", is, was)
		}
	}
}

// What the README tells of this layer.
func TestReadme(t *testing.T) {
	h := heap.New()
	h.Make(1, "")
	h.Lock()
	r := list(load(1, 0), lock)
	s, is := Next(h, r)
	if s.Act != load(1, 0) || s.Got != (api.Got{}) || !is {
		t.Fatal(s, is)
	}
	if s, is := Next(h, r); s != (Step{}) || is {
		t.Fatal(s, is)
	}
	if n, done := Alone(h, r, 9); n != 0 || done {
		t.Fatal(n, done)
	}
	other := list(unlock)
	same(t, "both", Run(h, []api.Routine{r, other}, []int{0, 1, 0}), []Step{{1, unlock, api.Got{}}, {0, lock, api.Got{Word: 1}}})
	if n, done := Alone(h, r, 9); n != 0 || !done {
		t.Fatal(n, done)
	}
}
