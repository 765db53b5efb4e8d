package inbox

import (
	"fmt"
	"math"
	"math/rand"
	"slices"
	"strings"
	"testing"
	"unsafe"

	"philtre/api"
)

// change is the i-th of those that differ.
func change(i int) api.Change {
	return api.Change{Key: fmt.Sprint("k", i), Has: true, Value: fmt.Sprint("v", i)}
}

// oddChanges may be, or may not: a box asks none of this.
var oddChanges = []api.Change{
	{}, {Key: "k"}, {Key: "k", Has: true}, {Key: "k", Value: "v"}, {Has: true}, {Value: "v"}, {Has: true, Value: "v"}, {Key: "k", Has: true, Value: "v"}, {Key: "v", Has: true, Value: "k"},
	{Key: strings.Repeat("k\x80", 20), Has: true, Value: strings.Repeat("v\xff", 40)}, {Key: "\x00", Value: "\x00"}, {Key: strings.Repeat("k", 16), Has: true, Value: strings.Repeat("v", 32)}, {Key: strings.Repeat("k", 17), Value: strings.Repeat("v", 33)},
}

// counts are how many changes may be asked for.
var counts = []int{math.MinInt, math.MinInt + 1, -1 << 32, -1<<32 + 1, -65, -64, -2, -1, 0, 1, 2, 3, 5, 31, 32, 33, 63, 64, 65, 66, 255, 256, 257, 1<<32 - 1, 1 << 32, 1<<32 + 1, 1 << 62, math.MaxInt - 1, math.MaxInt}

// tally is a box as it is reckoned here: all that was pushed since it last was empty, and how many of these are gone.
type tally struct {
	room, gone int
	pushed     []api.Change
	over       bool
}

// tallyOf is the tally of a box that New made.
func tallyOf(most int) *tally {
	switch {
	case most < 0:
		return &tally{}
	case most > 64:
		return &tally{room: 64}
	}
	return &tally{room: most}
}

func (k *tally) push(c api.Change) bool {
	if len(k.pushed)-k.gone == k.room {
		k.over = true
	}
	if !k.over {
		k.pushed = append(k.pushed, c)
	}
	return !k.over
}

func (k *tally) take(n int) ([]api.Change, bool) {
	from := k.gone
	if k.over && from == len(k.pushed) {
		return nil, false
	}
	for k.gone < len(k.pushed) && k.gone-from < n {
		k.gone++
	}
	return k.pushed[from:k.gone], true
}

// both is a box, and what it is reckoned to be.
type both struct {
	t *testing.T
	b *Box
	k *tally
}

func begin(t *testing.T, most int) *both {
	return &both{t, New(most), tallyOf(most)}
}

// filled is a box with that many changes, and room for some more.
func filled(t *testing.T, length, more int) *both {
	x := begin(t, length+more)
	for i := range length {
		if !x.push(change(i)) {
			t.Fatalf("%d of %d was refused", i, length)
		}
	}
	return x
}

// burst is a box with that many changes, to which too much came.
func burst(t *testing.T, length int) *both {
	x := filled(t, length, 0)
	x.push(change(-1))
	return x
}

// check holds what may be asked without changing anything.
func (x *both) check() {
	x.t.Helper()
	for range 2 {
		if n, over := x.b.Len(), x.b.Over(); n != len(x.k.pushed)-x.k.gone || over != x.k.over {
			x.t.Fatalf("%d, too much: %v, and not %d of %d, %v", n, over, len(x.k.pushed)-x.k.gone, x.k.room, x.k.over)
		}
	}
}

func (x *both) push(c api.Change) bool {
	x.t.Helper()
	want := x.k.push(c)
	if ok := x.b.Push(c); ok != want {
		x.t.Fatalf("%v pushed behind %d of %d: %v", c, len(x.k.pushed)-x.k.gone, x.k.room, ok)
	}
	x.check()
	return want
}

func (x *both) take(n int) ([]api.Change, bool) {
	x.t.Helper()
	want, wantOk := x.k.take(n)
	l, ok := x.b.Take(n)
	if ok != wantOk || !slices.Equal(l, want) {
		x.t.Fatalf("%d taken: %v, %v, and not %v, %v", n, l, ok, want, wantOk)
	}
	x.check()
	return l, ok
}

func (x *both) empty() {
	x.t.Helper()
	x.b.Empty()
	x.k = &tally{room: x.k.room}
	x.check()
}

// drained takes what is left, one by one and then all at once.
func (x *both) drained() {
	x.t.Helper()
	x.take(1)
	x.take(2)
	x.take(math.MaxInt)
	x.take(math.MaxInt)
	x.take(0)
}

// P15.1

func TestExample(t *testing.T) {
	b := New(1)
	if !b.Push(change(1)) || b.Push(change(2)) {
		t.Fatal(b.Len(), b.Over())
	}
	if l, ok := b.Take(5); !ok || !slices.Equal(l, []api.Change{change(1)}) {
		t.Fatal(l, ok)
	}
	if l, ok := b.Take(5); ok || len(l) != 0 {
		t.Fatal(l, ok)
	}
}

func TestNew(t *testing.T) {
	for _, c := range []struct{ most, room int }{
		{0, 0}, {1, 1}, {2, 2}, {3, 3}, {31, 31}, {32, 32}, {33, 33}, {63, 63}, {64, 64}, {65, 64}, {66, 64}, {127, 64}, {128, 64}, {255, 64}, {256, 64}, {257, 64}, {1 << 31, 64}, {1 << 32, 64}, {1<<32 + 1, 64}, {1 << 62, 64}, {math.MaxInt - 1, 64}, {math.MaxInt, 64},
		{-1, 0}, {-2, 0}, {-63, 0}, {-64, 0}, {-65, 0}, {-255, 0}, {-256, 0}, {-1 << 31, 0}, {-1<<32 + 5, 0}, {math.MinInt + 1, 0}, {math.MinInt, 0},
	} {
		b := New(c.most)
		if b == nil || b.Len() != 0 || b.Over() {
			t.Fatalf("%d: %d, too much: %v", c.most, b.Len(), b.Over())
		}
		for _, n := range counts {
			if l, ok := b.Take(n); !ok || len(l) != 0 || b.Len() != 0 || b.Over() {
				t.Fatalf("%d: %d taken: %v, %v", c.most, n, l, ok)
			}
		}
		for i := range c.room {
			if !b.Push(change(i)) || b.Len() != i+1 || b.Over() {
				t.Fatalf("%d: at %d: %d, too much: %v", c.most, i, b.Len(), b.Over())
			}
		}
		if b.Push(change(c.room)) || b.Len() != c.room || !b.Over() {
			t.Fatalf("%d: one more: %d, too much: %v", c.most, b.Len(), b.Over())
		}
	}
}

func TestPushUpToTheLast(t *testing.T) {
	for _, most := range []int{math.MinInt, -2, -1, 0, 1, 2, 3, 4, 5, 8, 31, 32, 33, 62, 63, 64, 65, 66, math.MaxInt} {
		x := begin(t, most)
		for i := range 70 {
			if ok := x.push(change(i)); ok != (i < most && i < 64) {
				t.Fatalf("room for %d, at %d: %v", most, i, ok)
			}
		}
		x.drained()
	}
}

// A refused push changes nothing but that too much came: no change is lost, and none moves.
func TestRefusedPush(t *testing.T) {
	for _, length := range []int{0, 1, 2, 3, 63, 64} {
		x := filled(t, length, 0)
		for i := range 5 {
			if x.push(change(100 + i)) {
				t.Fatalf("%d: one more", length)
			}
		}
		l, ok := x.take(100)
		if ok != (length > 0) || len(l) != length {
			t.Fatalf("%d: %v, %v", length, l, ok)
		}
		for i, c := range l {
			if c != change(i) {
				t.Fatalf("%v at %d of %d", c, i, length)
			}
		}
		x.drained()
	}
}

// Behind the first push that was refused each further one is, whatever was taken meanwhile.
func TestPushBehindARefusedOne(t *testing.T) {
	for _, length := range []int{0, 1, 2, 3, 5, 64} {
		for _, n := range []int{math.MinInt, -1, 0, 1, 2, length - 1, length, length + 1, math.MaxInt} {
			x := burst(t, length)
			x.take(n)
			for i := range 2*length + 2 {
				if x.push(change(i)) {
					t.Fatalf("%d of %d taken: at %d", n, length, i)
				}
				if i%3 == 0 {
					x.take(1)
				}
			}
			x.drained()
			if x.push(change(0)) {
				t.Fatalf("%d of %d taken: behind all", n, length)
			}
		}
	}
}

// A Take makes room for as many as it took, if nothing was refused ahead of it.
func TestTakeMakesRoom(t *testing.T) {
	for _, length := range []int{1, 2, 3, 5, 63, 64} {
		for _, n := range []int{math.MinInt, -1, 0, 1, 2, length - 1, length, length + 1, math.MaxInt} {
			x := filled(t, length, 0)
			l, _ := x.take(n)
			for i := range l {
				if !x.push(change(1000 + i)) {
					t.Fatalf("%d of %d taken: at %d", n, length, i)
				}
			}
			if x.push(change(-1)) {
				t.Fatalf("%d of %d taken: one more", n, length)
			}
			x.drained()
		}
	}
}

// A box goes on for as long as somebody takes what came.
func TestPushForLong(t *testing.T) {
	for _, c := range []struct{ most, a, b int }{{1, 1, 1}, {2, 1, 1}, {2, 2, 2}, {5, 3, 3}, {64, 64, 64}, {64, 63, 63}, {64, 1, 7}} {
		x := begin(t, c.most)
		for i := range 300 {
			for j := range c.a {
				if !x.push(change(i*100 + j)) {
					t.Fatalf("%v: at %d", c, i)
				}
			}
			x.take(c.b)
		}
		x.drained()
	}
}

func TestPushAgain(t *testing.T) {
	for _, c := range oddChanges {
		x := begin(t, 5)
		for i := range 7 {
			if ok := x.push(c); ok != (i < 5) {
				t.Fatalf("%v at %d: %v", c, i, ok)
			}
		}
		if l, ok := x.take(9); !ok || !slices.Equal(l, slices.Repeat([]api.Change{c}, 5)) {
			t.Fatal(l, ok)
		}
	}
}

func TestPushAsksNothing(t *testing.T) {
	x := begin(t, len(oddChanges))
	for _, c := range oddChanges {
		if !x.push(c) {
			t.Fatalf("%v was refused", c)
		}
	}
	x.push(change(0))
	if l, ok := x.take(100); !ok || !slices.Equal(l, oddChanges) {
		t.Fatal(l, ok)
	}
}

// P15.2

func TestTake(t *testing.T) {
	for _, length := range []int{0, 1, 2, 3, 5, 32, 63, 64} {
		for _, n := range append(counts, length-1, length, length+1) {
			for _, x := range []*both{filled(t, length, 0), filled(t, length, 3), burst(t, length)} {
				had := x.b.Over()
				l, ok := x.take(n)
				want := min(max(n, 0), length)
				if ok != (length > 0 || !had) || len(l) != want || x.b.Len() != length-want || x.b.Over() != had {
					t.Fatalf("%d of %d: %v, %v, %d left", n, length, l, ok, x.b.Len())
				}
				for i, c := range l {
					if c != change(i) {
						t.Fatalf("%d of %d: %v at %d", n, length, c, i)
					}
				}
				x.take(n)
				x.drained()
			}
		}
	}
}

// Of a box to which too much came there is nothing more when it has no changes, whatever is asked, again and again.
func TestTakeOfNone(t *testing.T) {
	for _, length := range []int{0, 1, 2, 64} {
		x := burst(t, length)
		if _, ok := x.take(length); ok != (length > 0) {
			t.Fatal(length, ok)
		}
		for _, n := range append(counts, counts...) {
			if l, ok := x.take(n); ok || len(l) != 0 {
				t.Fatalf("%d: %d: %v, %v", length, n, l, ok)
			}
		}
		x.empty()
		for _, n := range append(counts, counts...) {
			if l, ok := x.take(n); !ok || len(l) != 0 {
				t.Fatalf("%d, emptied: %d: %v, %v", length, n, l, ok)
			}
		}
	}
}

// Nothing is taken of a box that has changes left, where none is asked for, and that is no error.
func TestTakeNothing(t *testing.T) {
	for _, x := range []*both{filled(t, 3, 0), filled(t, 3, 1), burst(t, 3)} {
		for _, n := range []int{0, -1, -3, -64, math.MinInt, math.MinInt + 1} {
			if l, ok := x.take(n); !ok || len(l) != 0 || x.b.Len() != 3 {
				t.Fatalf("%d: %v, %v", n, l, ok)
			}
		}
		x.drained()
	}
}

func TestTakeInParts(t *testing.T) {
	for _, length := range []int{1, 2, 7, 64} {
		for _, n := range []int{1, 2, 3, 7, 63, 64} {
			for _, x := range []*both{filled(t, length, 1), burst(t, length)} {
				var all []api.Change
				for x.b.Len() > 0 {
					l, ok := x.take(n)
					if !ok {
						t.Fatalf("%d of %d: nothing behind %v", n, length, all)
					}
					all = append(all, l...)
				}
				for i := range length {
					if all[i] != change(i) || len(all) != length {
						t.Fatalf("%d of %d: %v", n, length, all)
					}
				}
			}
		}
	}
}

func TestEmpty(t *testing.T) {
	for _, length := range []int{0, 1, 2, 5, 63, 64} {
		for _, x := range []*both{filled(t, length, 0), filled(t, length, 2), burst(t, length)} {
			for _, n := range []int{0, 1, length} {
				x.take(n)
				x.empty()
				x.empty()
				room := x.k.room
				for i := range room {
					if !x.push(change(50 + i)) {
						t.Fatalf("%d of %d, emptied: at %d", n, length, i)
					}
				}
				if x.push(change(0)) {
					t.Fatalf("%d of %d, emptied: one more", n, length)
				}
				if l, _ := x.take(1); room > 0 && l[0] != change(50) {
					t.Fatalf("%d of %d, emptied: %v", n, length, l)
				}
			}
		}
	}
}

// Emptied is not the same as taken: behind a Take, too much is still told.
func TestEmptyOrTake(t *testing.T) {
	one, two := burst(t, 2), burst(t, 2)
	one.take(2)
	two.empty()
	if !one.b.Over() || two.b.Over() || one.push(change(1)) || !two.push(change(1)) {
		t.Fatal(one.b.Over(), two.b.Over())
	}
}

func anyChange(r *rand.Rand) api.Change {
	if r.Intn(3) == 0 {
		return oddChanges[r.Intn(len(oddChanges))]
	}
	return change(r.Intn(1000))
}

func anyCount(r *rand.Rand) int {
	if r.Intn(4) == 0 {
		return counts[r.Intn(len(counts))]
	}
	return r.Intn(6) - 1
}

func TestAnyCalls(t *testing.T) {
	r := rand.New(rand.NewSource(15))
	for range 2000 {
		x := begin(t, r.Intn(12)-2)
		if r.Intn(5) == 0 {
			x = begin(t, 58+r.Intn(10))
		}
		pushes, takes := 1+r.Intn(20), 1+r.Intn(20)
		for range 150 {
			switch i := r.Intn(pushes + takes + 1); {
			case i < pushes:
				x.push(anyChange(r))
			case i < pushes+takes:
				x.take(anyCount(r))
			case r.Intn(2) == 0:
				x.empty()
			}
		}
		x.drained()
	}
}

// All rows of six calls, of a box with little room.
func TestAllRowsOfCalls(t *testing.T) {
	for most := range 4 {
		for which := range 5 * 5 * 5 * 5 * 5 * 5 {
			x := begin(t, most)
			for i, rest := 0, which; i < 6; i, rest = i+1, rest/5 {
				switch rest % 5 {
				case 0, 1:
					x.push(change(i))
				case 2:
					x.empty()
				case 3:
					x.take(1)
				case 4:
					x.take(2)
				}
			}
			x.take(9)
			x.take(0)
		}
	}
}

// P15.3

// What is taken in all is held against what was pushed, which needs no count of room.
func TestExact(t *testing.T) {
	r := rand.New(rand.NewSource(153))
	for range 3000 {
		b := New(r.Intn(70))
		var pushed, taken []api.Change
		refused, often := false, 2+r.Intn(6)
		for i := range 200 {
			if r.Intn(often) > 0 {
				ok := b.Push(change(i))
				refused = refused || !ok
				if ok {
					pushed = append(pushed, change(i))
				}
				if ok && refused || b.Over() != refused {
					t.Fatalf("pushed at %d: %v, refused %v", i, ok, refused)
				}
				continue
			}
			l, ok := b.Take(anyCount(r))
			taken = append(taken, l...)
			if !ok && (!refused || len(taken) != len(pushed)) || len(taken) > len(pushed) || !slices.Equal(taken, pushed[:len(taken)]) {
				t.Fatalf("%v, %v: taken are %v, and pushed %v", l, ok, taken, pushed)
			}
		}
		l, _ := b.Take(64)
		if !slices.Equal(append(taken, l...), pushed) {
			t.Fatalf("taken are %v, and pushed %v", append(taken, l...), pushed)
		}
	}
}

// A nil box and one that New did not make

func TestNilBox(t *testing.T) {
	var b *Box
	for _, n := range counts {
		for _, c := range oddChanges {
			if b.Push(c) {
				t.Fatalf("%v was pushed", c)
			}
		}
		if l, ok := b.Take(n); ok || len(l) != 0 || b.Len() != 0 || b.Over() {
			t.Fatal(l, ok, b.Len(), b.Over())
		}
		b.Empty()
		if l, ok := b.Take(n); ok || len(l) != 0 || b.Len() != 0 || b.Over() {
			t.Fatal(l, ok, b.Len(), b.Over())
		}
	}
}

// It is like one with room for none, at each call, too.
func TestPlainBox(t *testing.T) {
	for range 2 {
		for _, x := range []*both{{t, &Box{}, tallyOf(0)}, {t, new(Box), tallyOf(0)}, begin(t, 0)} {
			x.check()
			x.drained()
			x.empty()
			x.drained()
			for _, c := range oddChanges {
				if x.push(c) {
					t.Fatalf("%v was pushed", c)
				}
			}
			if l, ok := x.take(1); ok || len(l) != 0 || !x.b.Over() {
				t.Fatal(l, ok)
			}
			x.drained()
			x.empty()
			if l, ok := x.take(1); !ok || len(l) != 0 || x.b.Over() {
				t.Fatal(l, ok)
			}
		}
	}
}

// New memory

// What is put behind a list that was taken, or into it, changes no box and no other list.
func TestTakenIsNewMemory(t *testing.T) {
	for _, over := range []bool{false, true} {
		for _, n := range []int{0, 1, 2, 5, 9, 10} {
			x := filled(t, 10, 0)
			if over {
				x.push(change(0))
			}
			l, _ := x.take(n)
			other, _ := x.take(2)
			was := slices.Clone(other)
			for i := range 70 {
				l = append(l, change(500+i))
			}
			for i := range l {
				l[i] = change(700)
			}
			_ = append(other, change(501), change(502))
			if !slices.Equal(other, was) {
				t.Fatalf("%v was %v", other, was)
			}
			x.drained()
		}
	}
}

// A list that was handed out stays as it is, whatever is done behind that.
func TestTakenStays(t *testing.T) {
	r := rand.New(rand.NewSource(154))
	for range 300 {
		x := begin(t, 1+r.Intn(64))
		var lists, were [][]api.Change
		for range 120 {
			switch r.Intn(12) {
			case 0:
				x.empty()
			case 1, 2, 3:
				l, _ := x.take(anyCount(r))
				lists, were = append(lists, l), append(were, slices.Clone(l))
			default:
				x.push(anyChange(r))
			}
		}
		for i, l := range lists {
			if !slices.Equal(l, were[i]) {
				t.Fatalf("%d is %v, and was %v", i, l, were[i])
			}
		}
	}
}

func TestRoomIsCutOff(t *testing.T) {
	for length := range 65 {
		for _, n := range []int{-1, 0, 1, length / 2, length - 1, length, length + 1} {
			x := filled(t, length, 2)
			for range 3 {
				if l, _ := x.take(n); cap(l) != len(l) {
					t.Fatalf("%d of %d: room for %d", n, length, cap(l))
				}
			}
		}
	}
}

func TestBoxesHaveNothingInCommon(t *testing.T) {
	one, two, three := filled(t, 3, 2), filled(t, 3, 2), begin(t, 3)
	l, _ := one.take(2)
	for _, c := range l {
		three.push(c)
	}
	l[0], l[1] = change(90), change(91)
	one.push(change(5))
	two.empty()
	two.push(change(6))
	for range 4 {
		three.push(change(7))
	}
	for _, x := range []*both{one, two, three} {
		x.check()
		x.drained()
	}
	if one.b.Over() || two.b.Over() || !three.b.Over() {
		t.Fatal(one.b.Over(), two.b.Over(), three.b.Over())
	}
}

// A box's texts are its own: they stay, whatever becomes of the memory in which they came.
func TestTextsAreNotKept(t *testing.T) {
	bytes := []byte("keyvalue")
	b := New(1)
	b.Push(api.Change{Key: unsafe.String(&bytes[0], 3), Has: true, Value: unsafe.String(&bytes[3], 5)})
	for i := range bytes {
		bytes[i] = '-'
	}
	if l, ok := b.Take(1); !ok || !slices.Equal(l, []api.Change{{Key: "key", Has: true, Value: "value"}}) {
		t.Fatal(l, ok)
	}
}

// What the README tells of this layer.
func TestReadme(t *testing.T) {
	b := New(2)
	x, y, z := change(1), change(2), change(3)
	if !b.Push(x) || !b.Push(y) || b.Push(z) || !b.Over() || b.Len() != 2 {
		t.Fatal(b.Len(), b.Over())
	}
	if l, ok := b.Take(9); !ok || !slices.Equal(l, []api.Change{x, y}) || b.Push(z) {
		t.Fatal(l, ok)
	}
	if l, ok := b.Take(9); ok || len(l) != 0 {
		t.Fatal(l, ok)
	}
	b.Empty()
	if b.Over() || !b.Push(z) {
		t.Fatal(b.Len(), b.Over())
	}
}
