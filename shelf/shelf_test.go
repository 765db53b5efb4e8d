package shelf

import (
	"fmt"
	"math"
	"math/rand"
	"slices"
	"strings"
	"testing"

	"philtre/act"
	"philtre/api"
	"philtre/drive"
	"philtre/heap"
)

// A version is driven as any routine is.
var _ api.Routine = (*Version)(nil)

// P22.1: the routine

func TestExample(t *testing.T) {
	for _, value := range []string{"", "of no matter"} {
		x := New(2, 0, api.Change{Key: "k", Value: value})
		if n, is := drive.Alone(heap.New(), x, 10); n != 2 || !is {
			t.Fatal(n, is)
		}
		if b, is := x.Result(); b != 1 || !is {
			t.Fatal(b, is)
		}
	}
}

func TestNumbers(t *testing.T) {
	if l := [4]int{Epoch, Next, Live, VersionCells}; l != [4]int{0, 1, 2, 3} {
		t.Fatal(l)
	}
	if l := [3]int{State, At, RecordCells}; l != [3]int{0, 1, 2} {
		t.Fatal(l)
	}
	// They are numbers of whatever type is asked for.
	if l := [7]uint8{Epoch, Next, Live, VersionCells, State, At, RecordCells}; l != [7]uint8{0, 1, 2, 3, 0, 1, 2} {
		t.Fatal(l)
	}
}

// All four ways of next and Has together, written out.
func TestActsWrittenOut(t *testing.T) {
	for _, x := range []struct {
		what  string
		next  uint64
		c     api.Change
		block uint64
		want  []api.Act
	}{
		{"next and a value", 4, api.Change{Key: "k", Has: true, Value: "v"}, 9, []api.Act{
			{Kind: 5, Cell: 3, Text: "v"},
			{Kind: 2, Block: 9, Cell: 0, New: 7},
			{Kind: 2, Block: 9, Cell: 1, New: 4},
			{Kind: 2, Block: 9, Cell: 2, New: 1},
		}},
		{"next and no value", 4, api.Change{Key: "k", Value: "v"}, 9, []api.Act{
			{Kind: 5, Cell: 3},
			{Kind: 2, Block: 9, Cell: 0, New: 7},
			{Kind: 2, Block: 9, Cell: 1, New: 4},
		}},
		{"no next and a value", 0, api.Change{Key: "k", Has: true, Value: "v"}, 9, []api.Act{
			{Kind: 5, Cell: 3, Text: "v"},
			{Kind: 2, Block: 9, Cell: 0, New: 7},
			{Kind: 2, Block: 9, Cell: 2, New: 1},
		}},
		{"neither", 0, api.Change{Key: "k", Value: "v"}, 9, []api.Act{
			{Kind: 5, Cell: 3},
			{Kind: 2, Block: 9, Cell: 0, New: 7},
		}},
		{"a value that is empty", 4, api.Change{Has: true}, 1, []api.Act{
			{Kind: 5, Cell: 3},
			{Kind: 2, Block: 1, Cell: 0, New: 7},
			{Kind: 2, Block: 1, Cell: 1, New: 4},
			{Kind: 2, Block: 1, Cell: 2, New: 1},
		}},
		{"no block", 4, api.Change{Key: "k", Has: true, Value: "v"}, 0, []api.Act{
			{Kind: 5, Cell: 3, Text: "v"},
		}},
	} {
		through(t, x.what, New(7, x.next, x.c), x.want, api.Got{Word: x.block}, func() api.Got { return api.Got{} })
	}
}

// Each epoch, next one and block, of changes with a value and without one.
func TestActs(t *testing.T) {
	for _, epoch := range epochs {
		for _, next := range nexts {
			for _, block := range append([]uint64{0}, blocks...) {
				for _, c := range []api.Change{{}, {Key: "k", Has: true, Value: "v"}, {Key: "k"}, {Has: true}, {Key: "k", Value: "v"}} {
					what := fmt.Sprintf("epoch %d, next %d, %+v, block %d", epoch, next, c, block)
					through(t, what, New(epoch, next, c), acts(epoch, next, c, block), api.Got{Word: block}, func() api.Got { return api.Got{} })
				}
			}
		}
	}
}

// Each key and value: a key is of no matter, and so is a value that the change has not.
func TestActsByChange(t *testing.T) {
	for i, c := range changes() {
		for _, next := range []uint64{0, 6} {
			for _, block := range []uint64{0, 8} {
				was := c
				x := New(3, next, c)
				want := acts(3, next, c, block)
				if !c.Has && want[0].Text != "" || c.Has && want[0].Text != c.Value {
					t.Fatal("reckoned wrong")
				}
				through(t, fmt.Sprint("change ", i, ", next ", next, ", block ", block), x, want, api.Got{Word: block}, func() api.Got { return api.Got{Word: 5} })
				if c != was {
					t.Fatal(i, c)
				}
			}
		}
	}
}

// Values beyond what an act's Text may be are told all the same.
func TestActsOfLongValue(t *testing.T) {
	for _, n := range []int{4097, 5000, 1 << 20} {
		value := strings.Repeat("v", n)
		for _, c := range []api.Change{{Has: true, Value: value}, {Value: value}} {
			for _, block := range []uint64{0, 8} {
				through(t, fmt.Sprint(n, c.Has, block), New(3, 5, c), acts(3, 5, c, block), api.Got{Word: block}, func() api.Got { return api.Got{} })
			}
		}
	}
}

// A text beside the block is of no matter, and of the stores no word and no text.
func TestAnswersOfNoMatter(t *testing.T) {
	gots := []api.Got{{}, {Word: 1}, {Word: 3}, {Word: math.MaxUint64}, {Text: "x"}, {Word: 9, Text: "\x00"}, {Text: strings.Repeat("t", 5000)}}
	for _, first := range []api.Got{{Word: 3}, {Word: 3, Text: "x"}, {Word: 3, Text: "\xff\x00"}, {Word: math.MaxUint64, Text: strings.Repeat("t", 5000)}, {}, {Text: "x"}, {Text: "3"}} {
		for _, a := range gots {
			for _, b := range gots {
				for _, last := range gots {
					for _, next := range []uint64{0, 6} {
						for _, c := range []api.Change{{Key: "k", Has: true, Value: "v"}, {Key: "k"}} {
							l := []api.Got{a, b, last}
							through(t, fmt.Sprintf("%+v %+v", first, l), New(2, next, c), acts(2, next, c, first.Word), first, func() api.Got {
								g := l[0]
								l = l[1:]
								return g
							})
						}
					}
				}
			}
		}
	}
}

// Answered no block, it stores nothing, whatever it might store, and its result is no block, and true.
func TestNoBlock(t *testing.T) {
	for _, g := range []api.Got{{}, {Text: "x"}} {
		for _, epoch := range epochs {
			for _, next := range nexts {
				for _, has := range []bool{false, true} {
					x := New(epoch, next, api.Change{Key: "k", Has: has, Value: "v"})
					x.Take(g)
					if b, is := x.Result(); b != 0 || !is {
						t.Fatal(epoch, next, has, b, is)
					}
					ended(t, fmt.Sprint(epoch, next, has), x, 0)
				}
			}
		}
	}
}

func TestResult(t *testing.T) {
	x := New(2, 3, api.Change{Has: true, Value: "v"})
	for i := range 4 {
		if b, is := x.Result(); b != 0 || is {
			t.Fatal(i, b, is)
		}
		x.Take(api.Got{Word: uint64(5 + i)})
	}
	for range 5 {
		if b, is := x.Result(); b != 5 || !is {
			t.Fatal(b, is)
		}
	}
}

// Asked never, asked often: what it is asked for is of no matter.
func TestAskedNever(t *testing.T) {
	for _, next := range []uint64{0, 3} {
		for _, has := range []bool{false, true} {
			for _, block := range []uint64{0, 5} {
				c := api.Change{Key: "k", Has: has, Value: "v"}
				for at := range len(acts(2, next, c, block)) + 1 {
					x := New(2, next, c)
					for i := range at {
						if i == 0 {
							x.Take(api.Got{Word: block})
						} else {
							x.Take(api.Got{Word: 77})
						}
					}
					if l := acts(2, next, c, block); at < len(l) {
						going(t, fmt.Sprint(next, has, block, at), x, l[at])
					} else {
						ended(t, fmt.Sprint(next, has, block, at), x, block)
					}
				}
			}
		}
	}
}

func TestNil(t *testing.T) {
	nothing(t, "nil", nil)
	if n, is := drive.Alone(heap.New(), (*Version)(nil), 10); n != 0 || !is {
		t.Fatal(n, is)
	}
}

// One that New did not make has nothing to do, and never will.
func TestPlain(t *testing.T) {
	var plain Version
	nothing(t, "var", &plain)
	nothing(t, "literal", &Version{})
	nothing(t, "new", new(Version))
	row := make([]Version, 3)
	for i := range row {
		nothing(t, "of a row", &row[i])
	}
	h := heap.New()
	if n, is := drive.Alone(h, &Version{}, 10); n != 0 || !is || len(h.Blocks()) != 0 || h.Faults() != 0 {
		t.Fatal(n, is, h.Blocks(), h.Faults())
	}
}

// Two routines share nothing, in whatever order they go on, of the same things or of others.
func TestApart(t *testing.T) {
	full, bare := api.Change{Key: "k", Has: true, Value: "v"}, api.Change{Key: "k"}
	for _, pair := range [][2]api.Change{{full, full}, {full, bare}, {bare, full}, {bare, bare}, {full, {Key: "other", Has: true, Value: "w"}}} {
		for order := range 1 << 8 {
			xs := [2]*Version{New(2, 3, pair[0]), New(4, 0, pair[1])}
			wants := [2][]api.Act{acts(2, 3, pair[0], 11), acts(4, 0, pair[1], 12)}
			var at [2]int
			for pick := range 8 {
				who := order >> pick & 1
				xs[who].Take(api.Got{Word: uint64(11 + who)})
				at[who] = min(at[who]+1, len(wants[who]))
				for i, x := range xs {
					if at[i] < len(wants[i]) {
						going(t, fmt.Sprint(order, pick, i), x, wants[i][at[i]])
					} else if b, is := x.Result(); b != uint64(11+i) || !is {
						t.Fatal(order, pick, i, b, is)
					}
				}
			}
		}
	}
}

// What is done with a change once it was handed in is of no matter.
func TestChangeApart(t *testing.T) {
	c := api.Change{Key: "k", Has: true, Value: "v"}
	x := New(2, 3, c)
	want := acts(2, 3, c, 5)
	c.Key, c.Has, c.Value = "other", false, "w"
	through(t, "a change that was turned", x, want, api.Got{Word: 5}, func() api.Got { return api.Got{} })
}

// Each act may be.
func TestActsMayBe(t *testing.T) {
	for _, c := range changes() {
		for _, block := range blocks {
			x := New(math.MaxUint64, math.MaxUint64, c)
			for a, more := x.Act(); more; a, more = x.Act() {
				if !act.Right(a) || act.Looks(a) || act.Text(a) == "" {
					t.Fatalf("%.80q", fmt.Sprint(a))
				}
				x.Take(api.Got{Word: block})
			}
		}
	}
}

func TestActsOfAny(t *testing.T) {
	r := rand.New(rand.NewSource(221))
	for range 20000 {
		epoch, next, c, first := anyWord(r), anyWord(r), anyChange(r), anyGot(r)
		if r.Intn(3) == 0 {
			next = 0
		}
		through(t, fmt.Sprintf("%d %d %+v %+v", epoch, next, c, first), New(epoch, next, c), acts(epoch, next, c, first.Word), first, func() api.Got { return anyGot(r) })
	}
}

// P22.2: makes

// On each heap, of each change: one block more, and nothing else.
func TestMakes(t *testing.T) {
	for _, epoch := range []uint64{0, 2, math.MaxUint64} {
		for _, next := range []uint64{0, 1, 99, math.MaxUint64} {
			for _, c := range changes() {
				for _, h := range grounds() {
					b := upcoming(h)
					was := look(h, b)
					x := New(epoch, next, c)
					if n, is := drive.Alone(h, x, 10); n != len(acts(epoch, next, c, b)) || !is {
						t.Fatal(epoch, next, n, is)
					}
					if got, is := x.Result(); got != b || !is {
						t.Fatal(epoch, next, got, is, b)
					}
					if l := h.Blocks(); !slices.Contains(l, b) {
						t.Fatal(epoch, next, l, b)
					}
					checkMade(t, h, b, epoch, next, c)
					if is := look(h, b); is != was || upcoming(h) != b+1 {
						t.Fatalf("%d %d: the heap is %s, and was %s", epoch, next, is, was)
					}
				}
			}
		}
	}
}

// Act by act: what is there so far, and what is not there yet.
func TestMakesActByAct(t *testing.T) {
	for _, h := range grounds() {
		b := upcoming(h)
		was := look(h, b)
		x := New(4, 6, api.Change{Key: "k", Has: true, Value: "v"})
		for i, want := range [][]uint64{nil, {0, 0, 0}, {4, 0, 0}, {4, 6, 0}, {4, 6, 1}} {
			if got := cells(h, b); !slices.Equal(got, want) {
				t.Fatal(i, got, want)
			}
			if is := look(h, b); is != was {
				t.Fatalf("%d: the heap is %s, and was %s", i, is, was)
			}
			n, is := drive.Alone(h, x, 1)
			if want := min(1, 4-i); n != want || is != (i >= 3) {
				t.Fatal(i, n, is)
			}
		}
	}
}

// A version of an older one, and so on down: each has the next one's number, and those below stay as they were.
func TestMakesChain(t *testing.T) {
	for _, h := range grounds() {
		var made []uint64
		next := uint64(0)
		for epoch := range uint64(10) {
			x := New(epoch, next, api.Change{Key: "k", Has: epoch%3 > 0, Value: fmt.Sprint("value ", epoch)})
			if _, is := drive.Alone(h, x, 10); !is {
				t.Fatal(epoch)
			}
			next, _ = x.Result()
			made = append(made, next)
		}
		for i, b := range made {
			older := uint64(0)
			if i > 0 {
				older = made[i-1]
			}
			checkMade(t, h, b, uint64(i), older, api.Change{Key: "k", Has: i%3 > 0, Value: fmt.Sprint("value ", i)})
		}
	}
}

// Several side by side on one heap, in any order: each makes its own one.
func TestMakesSideBySide(t *testing.T) {
	r := rand.New(rand.NewSource(222))
	for range 500 {
		h := grounds()[r.Intn(5)]
		from := upcoming(h)
		was := look(h, 0)
		cs := make([]api.Change, 5)
		xs := make([]api.Routine, 5)
		picks := make([]int, 0, 5*len(xs))
		for i := range xs {
			cs[i] = anyChange(r)
			xs[i] = New(uint64(10+i), uint64(i), cs[i])
			picks = append(picks, i, i, i, i, i)
		}
		r.Shuffle(len(picks), func(i, j int) { picks[i], picks[j] = picks[j], picks[i] })
		drive.Run(h, xs, picks)
		seen := map[uint64]bool{}
		for i, x := range xs {
			b, is := x.(*Version).Result()
			if !is || seen[b] || b < from || b >= from+5 {
				t.Fatal(i, b, is, seen, from)
			}
			seen[b] = true
			checkMade(t, h, b, uint64(10+i), uint64(i), cs[i])
		}
		for b := range seen {
			h.Drop(b)
		}
		if is := look(h, 0); is != was {
			t.Fatalf("the heap is %s, and was %s", is, was)
		}
	}
}

// Where no block can be made nothing is: of a value that is too long for an act, and of no heap.
func TestMakesNone(t *testing.T) {
	for _, h := range grounds() {
		was, b := look(h, 0), upcoming(h)
		x := New(2, 3, api.Change{Key: "k", Has: true, Value: strings.Repeat("v", 4097)})
		if n, is := drive.Alone(h, x, 10); n != 1 || !is {
			t.Fatal(n, is)
		}
		if is := look(h, 0); is != was || upcoming(h) != b {
			t.Fatalf("the heap is %s, and was %s", is, was)
		}
		ended(t, "too long", x, 0)
	}
	x := New(2, 3, api.Change{Key: "k", Has: true, Value: "v"})
	if n, is := drive.Alone(nil, x, 10); n != 1 || !is {
		t.Fatal(n, is)
	}
	ended(t, "no heap", x, 0)

	// Without the value it is not too long.
	h := heap.New()
	y := New(2, 3, api.Change{Key: "k", Value: strings.Repeat("v", 4097)})
	if n, is := drive.Alone(h, y, 10); n != 3 || !is {
		t.Fatal(n, is)
	}
	checkMade(t, h, 1, 2, 3, api.Change{})
}

func TestMakesOfAny(t *testing.T) {
	r := rand.New(rand.NewSource(223))
	for range 3000 {
		h := grounds()[r.Intn(5)]
		for range 1 + r.Intn(4) {
			epoch, next, c := anyWord(r), anyWord(r), anyChange(r)
			if r.Intn(3) == 0 {
				next = 0
			}
			b := upcoming(h)
			was := look(h, b)
			x := New(epoch, next, c)
			drive.Alone(h, x, 4)
			if got, is := x.Result(); got != b || !is {
				t.Fatal(epoch, next, got, is, b)
			}
			checkMade(t, h, b, epoch, next, c)
			if is := look(h, b); is != was {
				t.Fatalf("%d %d: the heap is %s, and was %s", epoch, next, is, was)
			}
		}
	}
}
