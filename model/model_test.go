package model

import (
	"fmt"
	"math"
	"math/rand"
	"slices"
	"strings"
	"testing"
	"unsafe"

	"philtre/api"
	"philtre/batch"
	"philtre/fold"
)

// roomFor is a config with room enough for what the tests do.
var roomFor = api.Config{Cap: 32, Queue: 64, Watchers: 8}

var ends = []int{math.MinInt, math.MinInt + 1, math.MaxInt - 1, math.MaxInt}

// counts are those of which a config may have too few or too many.
var counts = append([]int{-4294967295, -64, -33, -9, -2, -1, 0, 1, 2, 3, 7, 8, 9, 16, 31, 32, 33, 63, 64, 65, 255, 256, 257, 1 << 31, 1 << 32, 1<<32 + 1}, ends...)

// badOps may not be.
func badOps() []api.Op {
	key, value := strings.Repeat("k", 17), strings.Repeat("v", 33)
	good := put("k", "v")
	return []api.Op{
		{}, {Guards: []api.Guard{has("k")}}, when(api.Op{}, has("k"), lacks("l")),
		op(slices.Repeat([]api.Step{good}, 5)...), op(slices.Repeat([]api.Step{good}, 260)...), when(op(good), slices.Repeat([]api.Guard{has("k")}, 5)...),
		op(put(key, "")), op(put("k", value)), op(cas("k", value, "")), op(cas("k", "", value)), op(del(key)), op(add(key, 1)), op(good, good, good, put(key, "")),
		op(api.Step{}), op(api.Step{Kind: 5, Key: "k"}), op(api.Step{Kind: -1}), op(api.Step{Kind: math.MaxInt}), op(api.Step{Kind: math.MinInt}), op(good, api.Step{Kind: 257}),
		op(api.Step{Kind: api.Put, Key: "k", Old: "o"}), op(api.Step{Kind: api.Put, Key: "k", N: 1}), op(api.Step{Kind: api.Add, Key: "k", Value: "1"}), op(api.Step{Kind: api.Delete, Key: "k", Value: "v"}), op(api.Step{Kind: api.Cas, Key: "k", N: -1}),
		when(op(good), api.Guard{}), when(op(good), api.Guard{Kind: 4}), when(op(good), api.Guard{Kind: -1}), when(op(good), has(key)), when(op(good), equals("k", value)), when(op(good), has("k"), api.Guard{Kind: api.Has, Key: "k", Value: "v"}), when(op(good), api.Guard{Kind: api.Lacks, Value: "v"}),
	}
}

// filled is a model behind so many mutations, each of a key of its own.
func filled(t *testing.T, c api.Config, n int) *both {
	t.Helper()
	b := begin(t, c)
	for i := range n {
		if r := b.enter(op(put(fmt.Sprint("k", i), fmt.Sprint("v", i)))); r.Code != api.OK || r.Id.Seq != i+1 {
			t.Fatalf("at %d: %s", i, told(r))
		}
	}
	return b
}

// row is a batch of that many entries by another's names, from a Seq on.
func row(origin, seq, n int) []api.Entry {
	var l []api.Entry
	for i := range n {
		l = append(l, entry(origin, seq+i, op(add("n", 1), put(fmt.Sprint("r", origin, i), fmt.Sprint(seq)))))
	}
	return l
}

// own is a batch of this replica's names, in order.
func own(seqs ...int) []api.Entry {
	var l []api.Entry
	for _, seq := range seqs {
		l = append(l, entry(0, seq, op(put(fmt.Sprint("k", seq-1), fmt.Sprint("v", seq-1)))))
	}
	return l
}

// want fails unless a reply has the code, and nothing else, if that is none of OK.
func want(t *testing.T, r api.Reply, code api.Code) {
	t.Helper()
	if r.Code != code || code != api.OK && told(r) != told(api.Reply{Code: code}) {
		t.Fatalf("%s, not %d", told(r), code)
	}
}

func wantTold(t *testing.T, got, want string) {
	t.Helper()
	if got != want {
		t.Fatalf("%s\nnot %s", got, want)
	}
}

// New

func TestExample(t *testing.T) {
	b := begin(t, api.Config{Cap: 1})
	if r := b.do(mutate(op(put("k", "v")))); r.Code != api.OK || r.Id != (api.Id{Origin: 0, Seq: 1}) || !r.Took {
		t.Fatal(told(r))
	}
	want(t, b.do(mutate(op(put("k", "w")))), api.Full)
	if r := b.do(rebase(0, own(1))); r.Code != api.OK || r.N != 1 {
		t.Fatal(told(r))
	}
	if r := b.do(mutate(op(put("k", "w")))); r.Code != api.OK || r.Id != (api.Id{Origin: 0, Seq: 2}) {
		t.Fatal(told(r))
	}
}

func TestNewIsEmpty(t *testing.T) {
	for _, c := range []api.Config{{}, roomFor, {Cap: 1, Pins: 1, Shelves: 1, Queue: 1, Watchers: 1, Seed: math.MaxUint64}, {Cap: -1, Pins: -1, Shelves: math.MinInt, Queue: -1, Watchers: -1}} {
		m := New(c)
		if len(m.State()) != 0 || len(m.Done()) != 0 || len(m.Waits()) != 0 || m.Issued() != 0 || len(m.Watchers()) != 0 {
			t.Fatal(c)
		}
		begin(t, c).drained()
	}
}

// A config asks for no pins and no shelves here, and its seed is of no matter.
func TestNewAsksNothingElse(t *testing.T) {
	for _, n := range counts {
		b := begin(t, api.Config{Cap: 2, Queue: 2, Watchers: 2, Pins: n, Shelves: n, Seed: uint64(n)})
		want(t, b.do(watch("")), api.OK)
		want(t, b.enter(op(put("k", "v"))), api.OK)
		b.drained()
	}
}

func TestNewWithoutRoom(t *testing.T) {
	b := begin(t, api.Config{})
	for range 2 {
		want(t, b.enter(op(put("k", "v"))), api.Full)
		want(t, b.do(mutate(op(put("k", "v")))), api.Full)
		want(t, b.do(watch("")), api.TooManyWatchers)
		want(t, b.merge(0, own(1)), api.BadBatch)
	}
	if r := b.merge(0, row(3, 1, 2)); r.N != 0 || r.Code != api.OK || len(b.m.State()) != 3 {
		t.Fatal(told(r))
	}
	want(t, b.enter(op(put("k", "v"))), api.Full)
	b.drained()
}

func TestNewCap(t *testing.T) {
	for _, n := range counts {
		room := min(max(n, 0), 32)
		b := filled(t, api.Config{Cap: n}, room)
		for range 3 {
			want(t, b.enter(op(put("k", "v"))), api.Full)
			want(t, b.do(mutate(op(put("k", "v")))), api.Full)
		}
		if len(b.m.Waits()) != room || b.m.Issued() != room {
			t.Fatalf("%d: %d wait", n, len(b.m.Waits()))
		}
	}
}

func TestNewQueue(t *testing.T) {
	for _, n := range counts {
		room := min(max(n, 0), 64)
		b := begin(t, api.Config{Cap: 1, Queue: n, Watchers: 1})
		b.do(watch("k"))
		for i := range 70 {
			b.merge(i, []api.Entry{entry(1, i+1, op(put("k", fmt.Sprint(i))))})
		}
		if r := b.do(poll(1, 100)); len(r.Changes) != room || r.Code == api.OK != (room > 0) {
			t.Fatalf("%d: %s", n, told(r))
		}
		want(t, b.do(poll(1, 100)), api.Overflow)
		b.do(resync(1))
		want(t, b.do(poll(1, 100)), api.OK)
	}
}

func TestNewWatchers(t *testing.T) {
	for _, n := range counts {
		most := min(max(n, 0), 8)
		b := begin(t, api.Config{Watchers: n})
		for i := range most {
			if r := b.do(watch("k")); r.Code != api.OK || r.N != i+1 {
				t.Fatalf("%d: at %d: %s", n, i, told(r))
			}
		}
		for range 3 {
			want(t, b.do(watch("k")), api.TooManyWatchers)
		}
		if len(b.m.Watchers()) != most {
			t.Fatalf("%d: %v", n, b.m.Watchers())
		}
		if most > 0 {
			b.do(unwatch(1))
			if r := b.do(watch("k")); r.Code != api.OK || r.N != most+1 {
				t.Fatalf("%d: %s", n, told(r))
			}
			want(t, b.do(watch("k")), api.TooManyWatchers)
		}
	}
}

// P16.1: Enter

func TestEnter(t *testing.T) {
	b := begin(t, roomFor)
	for i, c := range []struct {
		o       api.Op
		took    bool
		changes string
		state   string
	}{
		{op(put("b", "1")), true, ` "b" true "1"`, ` "b"="1"`},
		{op(add("b", 4), put("a", "")), true, ` "a" true "" "b" true "5"`, ` "a"="" "b"="5"`},
		{op(put("b", "5")), true, ``, ` "a"="" "b"="5"`},
		{op(del("a"), del("none")), true, ` "a" false ""`, ` "b"="5"`},
		{op(cas("b", "4", "x")), false, ``, ` "b"="5"`},
		{op(cas("b", "5", "x")), true, ` "b" true "x"`, ` "b"="x"`},
		{op(put("c", "1"), add("b", 1)), false, ``, ` "b"="x"`},
		{when(op(put("c", "1")), lacks("b")), false, ``, ` "b"="x"`},
		{when(op(put("c", "1"), del("b")), has("b"), lacks("c"), equals("b", "x")), true, ` "b" false "" "c" true "1"`, ` "c"="1"`},
		{op(put("c", "2"), put("c", "1")), true, ``, ` "c"="1"`},
		{op(put("d", "2"), del("c"), del("d")), true, ` "c" false ""`, ``},
	} {
		r, l := b.m.Enter(c.o)
		b.k.enter(c.o)
		wantTold(t, told(r), told(api.Reply{Id: api.Id{Seq: i + 1}, Took: c.took}))
		wantTold(t, toldChanges(l), c.changes)
		wantTold(t, toldPairs(b.m.State()), c.state)
		b.check()
	}
}

func TestEnterOfBadOps(t *testing.T) {
	for i, o := range badOps() {
		for _, n := range []int{0, 1, 2, 3} {
			b := filled(t, api.Config{Cap: 2, Queue: 4, Watchers: 2}, min(n, 2))
			b.do(watch(""))
			for range 2 {
				if r := b.enter(o); told(r) != told(api.Reply{Code: api.BadOp}) {
					t.Fatalf("%d, of %d that wait: %s", i, n, told(r))
				}
			}
			if n < 2 {
				if r := b.enter(op(put("k", "v"))); r.Id.Seq != n+1 {
					t.Fatalf("%d: %s", i, told(r))
				}
			}
			b.drained()
		}
	}
}

func TestEnterOfAllThatMayBe(t *testing.T) {
	long, longest := strings.Repeat("\xff", 16), strings.Repeat("\x00", 32)
	b := begin(t, roomFor)
	b.do(watch(""))
	for _, o := range []api.Op{
		op(put(long, longest)), op(put("", "")), op(cas(long, longest, "")), op(cas("", "", longest)), op(del("")), op(add("n", math.MaxInt64)), op(add("n", math.MinInt64)), op(add("n", -1)),
		when(op(put(long, "1"), del(long), add(long, 5), cas(long, "5", "6")), has(long), lacks(""), equals(long, ""), has("n")),
		when(op(slices.Repeat([]api.Step{add("n", 1)}, 4)...), slices.Repeat([]api.Guard{equals("n", "-2")}, 4)...),
	} {
		if r := b.enter(o); r.Code != api.OK || !r.Took {
			t.Fatal(o, told(r))
		}
	}
	b.drained()
}

// Up to the last place, one more again and again, and behind batches that give room back.
func TestEnterUpToTheLast(t *testing.T) {
	for _, room := range []int{1, 2, 3, 16, 31, 32} {
		b := filled(t, api.Config{Cap: room, Queue: 9, Watchers: 1}, room)
		issued := room
		for turn := range 3 {
			for range 3 {
				want(t, b.enter(op(put("more", "x"))), api.Full)
				want(t, b.do(mutate(op(put("more", "x")))), api.Full)
			}
			given := min(room, 1+turn*7)
			if r := b.merge(len(b.m.Done()), b.m.Waits()[:given]); r.N != given {
				t.Fatal(told(r))
			}
			for range given {
				issued++
				if r := b.enter(op(add("n", 1))); r.Id != (api.Id{Seq: issued}) || !r.Took {
					t.Fatalf("%d: %s", issued, told(r))
				}
			}
		}
		want(t, b.enter(op(put("more", "x"))), api.Full)
	}
}

// What is refused has a name, waits, and changes nothing, till what stands ahead of it is another.
func TestEnterOfRefused(t *testing.T) {
	for i, o := range []api.Op{
		when(op(put("k", "v")), has("none")), when(op(put("k", "v")), lacks("is")), when(op(put("k", "v")), equals("is", "y")), when(op(put("k", "v")), equals("none", "")), when(op(put("k", "v")), has("is"), has("none")),
		op(cas("none", "", "v")), op(cas("is", "y", "v")), op(add("is", 1)), op(add("most", 1)), op(add("most", 0), add("most", 1)), op(put("k", "v"), add("is", 1)), op(del("is"), cas("is", "x", "v")), op(put("k", "v"), del("is"), put("is", "y"), cas("is", "x", "z")),
	} {
		b := begin(t, roomFor)
		b.enter(op(put("is", "x"), put("most", "9223372036854775807")))
		b.do(watch(""))
		was := toldPairs(b.m.State())
		wantTold(t, told(b.enter(o)), told(api.Reply{Id: api.Id{Seq: 2}}))
		wantTold(t, told(b.do(mutate(o))), told(api.Reply{Id: api.Id{Seq: 3}}))
		if l := b.m.Waits(); len(l) != 3 || toldEntries(l[1:]) != toldEntries([]api.Entry{entry(0, 2, o), entry(0, 3, o)}) {
			t.Fatalf("%d: %s", i, toldEntries(l))
		}
		wantTold(t, toldPairs(b.m.State()), was)
		wantTold(t, told(b.do(poll(1, 9))), told(api.Reply{}))
		b.merge(0, []api.Entry{entry(1, 1, op(put("none", ""), put("is", "y"), put("most", "1")))})
		b.merge(1, own(1))
		b.drained()
	}
}

func TestTookBehindARefusal(t *testing.T) {
	b := begin(t, roomFor)
	for i, c := range []struct {
		o    api.Op
		took bool
	}{{when(op(put("a", "1")), has("b")), false}, {op(put("b", "1")), true}, {when(op(put("a", "1")), has("b")), true}, {when(op(put("a", "1")), lacks("a")), false}} {
		if r := b.enter(c.o); r.Took != c.took {
			t.Fatalf("%d: %s", i, told(r))
		}
	}
	// The first one takes too, once what the second one does stands ahead of it.
	b.merge(0, []api.Entry{entry(0, 2, op(put("b", "2")))})
	wantTold(t, toldPairs(b.m.State()), ` "a"="1" "b"="2"`)
}

func TestNames(t *testing.T) {
	b := begin(t, api.Config{Cap: 3, Watchers: 1})
	seq := 0
	for i := range 60 {
		r := b.enter(op(add("n", int64(i))))
		if len(b.k.waits) == 3 && r.Code == api.Full {
			want(t, b.enter(api.Op{}), api.BadOp)
			waits := b.m.Waits()
			b.merge(len(b.m.Done()), []api.Entry{waits[i%3], entry(7, i+1, op(del("z")))})
			continue
		}
		if seq++; r.Code != api.OK || r.Id != (api.Id{Origin: 0, Seq: seq}) || b.m.Issued() != seq {
			t.Fatalf("%d: %s", seq, told(r))
		}
		want(t, b.do(mutate(api.Op{})), api.BadOp)
		want(t, b.merge(0, own(99)), map[bool]api.Code{true: api.BadBatch, false: api.StaleBatch}[len(b.m.Done()) == 0])
	}
	for i, e := range b.m.Waits() {
		if e.Id.Origin != 0 || e.Id.Seq > seq || i > 0 && b.m.Waits()[i-1].Id.Seq >= e.Id.Seq {
			t.Fatal(toldEntries(b.m.Waits()))
		}
	}
}

// P16.1: Merge, Would, Acked

func TestMergeOfSizes(t *testing.T) {
	for _, n := range []int{0, 1, 2, 3, 15, 16} {
		b := filled(t, roomFor, 2)
		b.do(watch(""))
		for turn := range 4 {
			l := row(4, 1+turn*16, n)
			wantTold(t, told(b.merge(n*turn, l)), told(api.Reply{}))
			if len(b.m.Done()) != n*(turn+1) || !batch.Same(b.m.Done()[n*turn:], l) || len(b.m.Waits()) != 2 {
				t.Fatal(toldEntries(b.m.Done()))
			}
		}
		b.drained()
	}
}

// badRows are no batches.
func badRows() [][]api.Entry {
	good := op(put("k", "v"))
	l := [][]api.Entry{row(1, 1, 17), row(1, 1, 18), row(1, 1, 300), {entry(1, 1, good), entry(1, 1, good)}, {entry(1, 1, good), entry(1, 1, op(del("k")))}, {entry(0, 1, good), entry(0, 1, good)}, append(row(1, 1, 15), entry(1, 1, good)), append(row(1, 1, 15), entry(1, 15, good)), append(row(1, 1, 17), entry(1, 5, good))}
	for _, id := range []api.Id{{}, {Origin: 1}, {Origin: 1, Seq: -1}, {Origin: 0, Seq: -1}, {Origin: -1, Seq: 1}, {Origin: 256, Seq: 1}, {Origin: 1, Seq: 4294967297}, {Origin: 0, Seq: 4294967297}, {Origin: math.MinInt, Seq: math.MinInt}, {Origin: math.MaxInt, Seq: math.MaxInt}} {
		l = append(l, []api.Entry{{Id: id, Op: good}}, append(row(1, 1, 3), api.Entry{Id: id, Op: good}), append([]api.Entry{{Id: id, Op: good}}, row(1, 1, 15)...))
	}
	for _, o := range badOps() {
		l = append(l, []api.Entry{entry(1, 1, o)}, append(row(1, 1, 15), entry(1, 16, o)), []api.Entry{entry(1, 1, good), entry(1, 2, o), entry(1, 3, good)})
	}
	return l
}

func starts(n int) []int {
	return append([]int{n, n - 1, n + 1, 0, -1, -n, n + 16, n + 4294967296, n - 4294967296}, ends...)
}

// That a row is no batch is told whatever its start is.
func TestMergeOfNoBatch(t *testing.T) {
	for _, n := range []int{0, 3} {
		b := filled(t, api.Config{Cap: 2, Queue: 5, Watchers: 1}, 2)
		b.do(watch(""))
		b.merge(0, row(9, 1, n))
		for i, l := range badRows() {
			for _, start := range starts(n) {
				if code, _ := b.would(start, l); code != api.BadBatch {
					t.Fatalf("%d at %d: %d", i, start, code)
				}
				if r := b.merge(start, l); told(r) != told(api.Reply{Code: api.BadBatch}) {
					t.Fatalf("%d at %d: %s", i, start, told(r))
				}
			}
		}
		b.drained()
	}
}

func TestMergeOfAStart(t *testing.T) {
	for _, n := range []int{0, 1, 2, 16} {
		b := filled(t, roomFor, 2)
		b.do(watch(""))
		b.merge(0, row(9, 1, n))
		for _, start := range starts(n) {
			for _, l := range [][]api.Entry{nil, row(8, 1, 1), own(2), own(1, 2)} {
				if start == n {
					continue
				}
				if code, _ := b.would(start, l); code != api.StaleBatch {
					t.Fatalf("%d, not %d: %d", start, n, code)
				}
				want(t, b.merge(start, l), api.StaleBatch)
				want(t, b.do(rebase(start, l)), api.StaleBatch)
			}
		}
		want(t, b.merge(n, row(8, 1, 1)), api.OK)
		want(t, b.merge(n, row(8, 2, 1)), api.StaleBatch)
		want(t, b.merge(n+1, row(8, 2, 1)), api.OK)
		b.drained()
	}
}

// A batch does not begin anew: what is done is not done again.
func TestMergeOfDone(t *testing.T) {
	b := filled(t, roomFor, 3)
	b.do(watch(""))
	done := slices.Concat(row(9, 1, 5), own(2), row(3, 4294967296, 1))
	b.merge(0, done)
	for i := range done {
		for _, o := range []api.Op{done[i].Op, op(del("other"))} {
			again := api.Entry{Id: done[i].Id, Op: o}
			for _, l := range [][]api.Entry{{again}, {again, entry(7, 1, o)}, {entry(7, 1, o), again, entry(7, 2, o)}, append(row(7, 1, 15), again), append([]api.Entry{again}, own(1, 3)...), append(own(1, 3), again)} {
				if code, _ := b.would(7, l); code != api.BadBatch {
					t.Fatalf("%v: %d", again.Id, code)
				}
				want(t, b.merge(7, l), api.BadBatch)
				want(t, b.do(rebase(7, l)), api.BadBatch)
				want(t, b.merge(6, l), api.StaleBatch)
			}
		}
	}
	if r := b.merge(7, slices.Concat(row(9, 6, 1), own(1, 3))); r.N != 2 {
		t.Fatal(told(r))
	}
	b.drained()
}

// Of this replica's names only those that were issued may come.
func TestMergeOfIssued(t *testing.T) {
	for _, issued := range []int{0, 1, 2, 5} {
		b := filled(t, roomFor, issued)
		for _, seq := range []int{issued + 1, issued + 2, issued + 256, 4294967295, 4294967296} {
			e := entry(0, seq, op(put("k", "v")))
			for _, l := range [][]api.Entry{{e}, {entry(1, 1, e.Op), e}, {e, entry(1, 1, e.Op)}, append(row(1, 1, 15), e)} {
				want(t, b.merge(0, l), api.BadBatch)
				want(t, b.merge(1, l), api.StaleBatch)
				want(t, b.merge(-1, l), api.StaleBatch)
			}
		}
		if issued > 0 {
			want(t, b.merge(0, append(own(issued), entry(0, issued+1, op(del("k"))))), api.BadBatch)
			if r := b.merge(0, own(issued)); r.N != 1 {
				t.Fatal(told(r))
			}
		}
		for i, id := range []api.Id{{Origin: 1, Seq: issued + 1}, {Origin: 1, Seq: 4294967296}, {Origin: 255, Seq: 1}, {Origin: 255, Seq: 4294967296}, {Origin: 2, Seq: 1}} {
			if r := b.merge(len(b.m.Done()), []api.Entry{{Id: id, Op: op(add("n", 1))}}); told(r) != told(api.Reply{}) {
				t.Fatalf("%d: %v: %s", i, id, told(r))
			}
		}
		if r := b.enter(op(del("k"))); r.Id.Seq != issued+1 {
			t.Fatal(told(r))
		}
		want(t, b.merge(len(b.m.Done()), own(issued+1)), api.OK)
	}
}

// All ways to acknowledge four that wait, of which a batch has some others too.
func TestMergeAcknowledges(t *testing.T) {
	for _, seqs := range [][]int{nil, {1}, {2}, {4}, {1, 2}, {2, 1}, {4, 1}, {2, 3}, {1, 2, 3}, {3, 1, 2}, {1, 2, 3, 4}, {4, 3, 2, 1}, {2, 4, 1, 3}} {
		for _, others := range []int{0, 1, 12} {
			b := begin(t, roomFor)
			b.do(watch(""))
			for i := range 4 {
				b.enter(op(add("n", int64(i)), put("last", fmt.Sprint(i))))
			}
			l := row(3, 1, others)
			for _, seq := range seqs {
				l = slices.Insert(l, len(l)/2, entry(0, seq, op(add("n", int64(seq-1)), put("last", fmt.Sprint(seq-1)))))
			}
			if code, n := b.would(0, l); code != api.OK || n != len(seqs) {
				t.Fatalf("%v: %d, %d names", seqs, code, n)
			}
			if r := b.merge(0, l); told(r) != told(api.Reply{N: len(seqs)}) || len(b.m.Waits()) != 4-len(seqs) {
				t.Fatalf("%v: %s", seqs, told(r))
			}
			var left []int
			for _, e := range b.m.Waits() {
				left = append(left, e.Id.Seq)
			}
			if !slices.IsSorted(left) || slices.ContainsFunc(left, func(seq int) bool { return slices.Contains(seqs, seq) }) {
				t.Fatalf("%v: %v wait", seqs, left)
			}
			b.drained()
		}
	}
}

// The batch's operation is done, if the one that waits by its name is another.
func TestMergeOfAnotherOp(t *testing.T) {
	b := begin(t, roomFor)
	b.do(watch(""))
	b.enter(op(put("k", "mine"), put("only", "mine")))
	b.enter(op(add("n", 5)))
	r, l := b.m.Merge(0, []api.Entry{entry(0, 1, op(put("k", "theirs")))})
	b.k.merge(0, []api.Entry{entry(0, 1, op(put("k", "theirs")))})
	wantTold(t, told(r), told(api.Reply{N: 1}))
	wantTold(t, toldChanges(l), ` "k" true "theirs" "only" false ""`)
	wantTold(t, toldPairs(b.m.State()), ` "k"="theirs" "n"="5"`)
	wantTold(t, toldEntries(b.m.Done()), toldEntries([]api.Entry{entry(0, 1, op(put("k", "theirs")))}))
	b.merge(1, []api.Entry{entry(0, 2, when(op(add("n", 7)), has("n")))})
	wantTold(t, toldPairs(b.m.State()), ` "k"="theirs"`)
	b.drained()
}

// What waits is done anew behind a batch: it may be refused then, or take then.
func TestMergeAheadOfWaits(t *testing.T) {
	for _, c := range []struct {
		waits, comes  api.Op
		took          bool
		state, change string
	}{
		{when(op(put("k", "v")), lacks("k")), op(put("k", "w")), true, ` "k"="w"`, ` "k" true "w"`},
		{when(op(put("k", "v")), has("l")), op(put("l", "w")), false, ` "k"="v" "l"="w"`, ` "k" true "v" "l" true "w"`},
		{op(add("k", 2)), op(put("k", "x")), true, ` "k"="x"`, ` "k" true "x"`},
		{op(add("k", 2)), op(put("k", "1")), true, ` "k"="3"`, ` "k" true "3"`},
		{op(cas("k", "o", "v")), op(put("k", "o")), false, ` "k"="v"`, ` "k" true "v"`},
		{op(put("k", "v")), op(put("k", "w")), true, ` "k"="v"`, ``},
		{op(put("k", "v")), op(del("k")), true, ` "k"="v"`, ``},
		{op(put("k", "v")), op(put("l", "w")), true, ` "k"="v" "l"="w"`, ` "l" true "w"`},
		{op(del("k")), op(put("k", "w")), true, ``, ``},
		{when(op(del("k"), put("a", "1")), has("k")), op(put("k", "w"), put("z", "")), false, ` "a"="1" "z"=""`, ` "a" true "1" "z" true ""`},
	} {
		b := begin(t, roomFor)
		b.do(watch(""))
		r := b.enter(c.waits)
		if r.Took != c.took {
			t.Fatalf("%v: %s", c.waits, told(r))
		}
		b.do(poll(1, 9))
		r, l := b.m.Merge(0, []api.Entry{entry(5, 1, c.comes)})
		b.k.merge(0, []api.Entry{entry(5, 1, c.comes)})
		wantTold(t, told(r), told(api.Reply{}))
		wantTold(t, toldChanges(l), c.change)
		wantTold(t, toldPairs(b.m.State()), c.state)
		wantTold(t, told(b.do(poll(1, 9))), told(api.Reply{Changes: l}))
		b.drained()
	}
}

// Batches in another order than that in which the operations were handed in, one behind the other.
func TestMergeOfSeveral(t *testing.T) {
	b := begin(t, api.Config{Cap: 4, Queue: 64, Watchers: 1})
	b.do(watch(""))
	text := func(seq int) api.Op { return op(put("last", fmt.Sprint(seq)), add("sum", int64(seq))) }
	for seq := 1; seq <= 4; seq++ {
		b.enter(text(seq))
	}
	for i, c := range []struct {
		seqs  []int
		state string
	}{{[]int{2}, ` "last"="4" "sum"="10"`}, {nil, ` "last"="4" "sum"="10"`}, {[]int{4, 1}, ` "last"="3" "sum"="10"`}, {[]int{3}, ` "last"="3" "sum"="10"`}} {
		var l []api.Entry
		for _, seq := range c.seqs {
			l = append(l, entry(0, seq, text(seq)))
		}
		if r := b.merge(len(b.m.Done()), l); r.Code != api.OK || r.N != len(c.seqs) {
			t.Fatalf("%d: %s", i, told(r))
		}
		wantTold(t, toldPairs(b.m.State()), c.state)
	}
	wantTold(t, fmt.Sprint(batch.Ids(b.m.Done())), "[{0 2} {0 4} {0 1} {0 3}]")
	if r := b.enter(text(5)); r.Id.Seq != 5 || !r.Took {
		t.Fatal(told(r))
	}
	b.drained()
}

func TestMergeTellsWhatChanges(t *testing.T) {
	b := begin(t, roomFor)
	b.enter(op(put("b", "2"), put("d", "4"), put("f", "6")))
	l := []api.Entry{entry(0, 1, op(put("f", "7"), put("b", "2"))), entry(1, 1, op(put("e", "5"), put("a", "1"), put("c", "3"))), entry(1, 2, op(del("c"), put("\xff", ""))), entry(1, 3, op(add("b", 1), put("", "x")))}
	r, changes := b.m.Merge(0, l)
	b.k.merge(0, l)
	wantTold(t, told(r), told(api.Reply{N: 1}))
	wantTold(t, toldChanges(changes), ` "" true "x" "a" true "1" "b" true "3" "d" false "" "e" true "5" "f" true "7" "\xff" true ""`)
	b.check()
	r, changes = b.m.Merge(4, []api.Entry{entry(1, 4, op(put("a", "1"))), entry(1, 5, op(del("a"))), entry(1, 6, op(put("a", "1"))), entry(1, 7, op(cas("a", "2", "3")))})
	if told(r) != told(api.Reply{}) || len(changes) != 0 || len(b.m.Done()) != 8 {
		t.Fatal(told(r), toldChanges(changes))
	}
}

// Acked asks for no batch, and counts each name once.
func TestAcked(t *testing.T) {
	b := filled(t, roomFor, 4)
	b.merge(0, own(2))
	bad := api.Op{}
	for i, c := range []struct {
		l []api.Entry
		n int
	}{
		{nil, 0}, {own(1), 1}, {own(2), 0}, {own(1, 2, 3, 4), 3}, {own(4, 3, 1), 3}, {own(1, 1, 1), 1}, {own(3, 1, 3, 1), 2}, {own(5), 0}, {row(1, 1, 16), 0}, {row(1, 1, 40), 0}, {append(row(1, 1, 40), own(4)...), 1},
		{[]api.Entry{entry(0, 1, bad), entry(0, 1, bad), entry(0, 3, bad)}, 2}, {[]api.Entry{entry(1, 1, bad), entry(-1, 3, bad), entry(0, -1, bad), entry(0, 0, bad), entry(256, 4, bad), entry(0, 4294967297, bad), entry(4294967296, 1, bad)}, 0}, {slices.Repeat(own(1, 3), 20), 2},
	} {
		if _, n := b.would(1, c.l); n != c.n {
			t.Fatalf("%d: %d", i, n)
		}
		if n := b.m.Acked(c.l); n != c.n {
			t.Fatalf("%d: %d", i, n)
		}
	}
	for _, l := range badRows() {
		b.would(1, l)
	}
	b.drained()
}

// What Would and Acked tell is what Merge tells then; they change nothing.
func TestWould(t *testing.T) {
	r := rand.New(rand.NewSource(161))
	for range 150 {
		b := anyModel(r, t, 12)
		for range 12 {
			l, start := anyRow(r, b.k), anyStart(r, b.k)
			var code api.Code
			var n int
			for range 1 + r.Intn(3) {
				code, n = b.would(start, l)
			}
			reply := b.merge(start, l)
			if reply.Code != code || code == api.OK && reply.N != n {
				t.Fatalf("%d, and %d names: %s", code, n, told(reply))
			}
		}
		b.drained()
	}
}

// P16.2

func TestKinds(t *testing.T) {
	for _, kind := range append([]int{0, -1, -9, 10, 11, 255, 256, 257, 265, 1 << 32, 1<<32 + 1, 1<<32 + 9}, ends...) {
		b := filled(t, roomFor, 2)
		b.do(watch(""))
		for _, c := range []api.Call{{}, {Text: "k0"}, {N: 1}, {N: 1, Start: 5}, mutate(op(put("k", "v"))).call, rebase(0, own(1)).call} {
			c.Kind = kind
			want(t, b.do(ask{call: c}), api.BadOp)
		}
		b.drained()
	}
}

// What a call's kind has not is of no matter.
func TestCallsAskNothingElse(t *testing.T) {
	b := filled(t, roomFor, 2)
	b.do(watch("k"))
	for _, n := range []int{0, 1, 2, -1, math.MaxInt, math.MinInt} {
		for _, a := range []ask{snapshot, collect, read("k1"), read("k5"), watch("x"), mutate(op(put("k", "v"))), mutate(op(cas("k", "v", "w"))), rebase(len(b.m.Done()), row(n&63, len(b.m.Done())+9, 1)), poll(1, 2), unwatch(9), resync(1)} {
			switch a.call.Kind {
			case api.Rebase:
				a.call.N = n
			case api.Poll:
				a.call.Text = "k1"
			case api.Unwatch, api.Resync:
				a.call.Start, a.call.Text = n, "k1"
			case api.Snapshot, api.Collect:
				a.call.Text = "k1"
				fallthrough
			default:
				a.call.Start, a.call.N = n, n
			}
			b.do(a)
		}
	}
	b.drained()
}

func TestMutate(t *testing.T) {
	b := begin(t, roomFor)
	r, l := b.m.Do(mutate(when(op(put("a", "1"), add("n", -5)), lacks("a"))).call)
	wantTold(t, told(r), told(api.Reply{Id: api.Id{Seq: 1}, Took: true}))
	wantTold(t, toldChanges(l), ` "a" true "1" "n" true "-5"`)
	r, l = b.m.Do(mutate(when(op(put("a", "1"), add("n", -5)), lacks("a"))).call)
	wantTold(t, told(r), told(api.Reply{Id: api.Id{Seq: 2}}))
	wantTold(t, toldChanges(l), ``)
	// The bytes of a Put of a to k.
	r, l = b.m.Do(api.Call{Kind: api.Mutate, Text: "\x00\x01\x01\x01k\x01a"})
	wantTold(t, told(r), told(api.Reply{Id: api.Id{Seq: 3}, Took: true}))
	wantTold(t, toldChanges(l), ` "k" true "a"`)
}

// nearly is texts that differ from a text by a byte: one less, one more, another one.
func nearly(text string) []string {
	l := []string{""}
	for i := range len(text) {
		l = append(l, text[:i], text[i:], text[:i]+text[i+1:])
		for _, c := range []byte{0, 1, 2, 5, 17, 33, 127, 128, 255, text[i] + 1, text[i] - 1, text[i] ^ 128} {
			l = append(l, text[:i]+string([]byte{c})+text[i+1:], text[:i]+string([]byte{c})+text[i:])
		}
	}
	return append(l, text+"\x00", text+"\x01", text+"\xff", text+text)
}

func TestMutateOfNoBytes(t *testing.T) {
	wrong := 0
	for _, c := range []api.Config{{}, roomFor} {
		for _, o := range []api.Op{op(put("k", "v")), when(op(add("n", 300), cas("c", "o", "v"), del("d")), has("h"), equals("e", "v"))} {
			b := begin(t, c)
			b.do(watch(""))
			for _, text := range nearly(mutate(o).call.Text) {
				a := asked(api.Call{Kind: api.Mutate, Text: text})
				if r := b.do(a); !a.readable {
					want(t, r, api.BadOp)
					wrong++
				}
				if len(b.m.Waits()) > 20 {
					b.merge(len(b.m.Done()), b.m.Waits()[:16])
				}
			}
			for _, a := range []ask{mutate(api.Op{}), mutate(op(slices.Repeat([]api.Step{put("k", "v")}, 5)...)), mutate(when(op(put("k", "v")), slices.Repeat([]api.Guard{has("k")}, 5)...)), mutate(op(put("0123456789abcdefg", ""))), mutate(op(api.Step{Kind: 5})), mutate(op(api.Step{})), {call: api.Call{Kind: api.Mutate, Text: "x"}}} {
				want(t, b.do(a), api.BadOp)
			}
			b.drained()
		}
	}
	if wrong < 500 {
		t.Fatal(wrong)
	}
}

func TestRead(t *testing.T) {
	b := begin(t, roomFor)
	b.enter(op(put("k", "v"), put("empty", ""), put("", "of none"), put("0123456789abcdef", "long")))
	for _, c := range []struct {
		key, value string
		has        bool
	}{{"k", "v", true}, {"empty", "", true}, {"", "of none", true}, {"0123456789abcdef", "long", true}, {"none", "", false}, {"K", "", false}, {"kk", "", false}, {"empt", "", false}, {"empty\x00", "", false}, {"0123456789abcdefg", "", false}, {"\xff\xfe", "", false}, {strings.Repeat("k", 5000), "", false}} {
		r, l := b.m.Do(read(c.key).call)
		wantTold(t, told(r), told(api.Reply{Took: c.has, Value: c.value}))
		wantTold(t, toldChanges(l), "")
		b.do(read(c.key))
	}
	b.enter(op(del("k"), put("none", "is")))
	if b.do(read("k")).Took || !b.do(read("none")).Took || b.do(read("none")).Value != "is" {
		t.Fatal(toldPairs(b.m.State()))
	}
	b.merge(0, []api.Entry{entry(0, 1, op(put("k", "w")))})
	if b.do(read("k")).Took || b.do(read("empty")).Took {
		t.Fatal(toldPairs(b.m.State()))
	}
}

func TestSnapshot(t *testing.T) {
	b := begin(t, roomFor)
	wantTold(t, told(b.do(snapshot)), told(api.Reply{}))
	b.enter(op(put("b", ""), put("a", "1")))
	b.merge(0, []api.Entry{entry(1, 1, op(put("\xff", "2"), put("ab", "x"), put("a", "0")))})
	r, l := b.m.Do(snapshot.call)
	wantTold(t, told(r), told(api.Reply{Pairs: []api.Pair{{Key: "a", Value: "1"}, {Key: "ab", Value: "x"}, {Key: "b"}, {Key: "\xff", Value: "2"}}}))
	wantTold(t, toldChanges(l), "")
	b.enter(op(del("a"), del("ab"), del("b"), del("\xff")))
	wantTold(t, told(b.do(snapshot)), told(api.Reply{}))
}

func TestRebase(t *testing.T) {
	b := filled(t, roomFor, 2)
	r, l := b.m.Do(rebase(0, append(own(2), entry(6, 1, op(put("x", "y"))))).call)
	wantTold(t, told(r), told(api.Reply{N: 1}))
	wantTold(t, toldChanges(l), ` "x" true "y"`)
	// The bytes of a Put of a to k by the name 0.1.
	r, l = b.m.Do(api.Call{Kind: api.Rebase, Start: 2, Text: "\x01\x00\x01\x00\x01\x01\x01k\x01a"})
	wantTold(t, told(r), told(api.Reply{N: 1}))
	wantTold(t, toldChanges(l), ` "k" true "a" "k0" false ""`)
	wantTold(t, fmt.Sprint(batch.Ids(b.m.Done())), "[{0 2} {6 1} {0 1}]")
	r, l = b.m.Do(api.Call{Kind: api.Rebase, Start: 3, Text: "\x00"})
	wantTold(t, told(r), told(api.Reply{}))
	wantTold(t, toldChanges(l), "")
}

func TestRebaseOfNoBytes(t *testing.T) {
	wrong := 0
	for _, l := range [][]api.Entry{nil, own(1), {entry(0, 2, when(op(add("n", 300)), has("h"))), entry(200, 300, op(put("k", "v")))}} {
		b := filled(t, roomFor, 2)
		b.do(watch(""))
		for _, text := range nearly(rebase(0, l).call.Text) {
			for _, start := range []int{len(b.m.Done()), len(b.m.Done()) + 1, -1} {
				a := asked(api.Call{Kind: api.Rebase, Start: start, Text: text})
				if r := b.do(a); !a.readable {
					want(t, r, api.BadBatch)
					wrong++
				}
			}
		}
		for _, bad := range [][]api.Entry{row(1, 1, 17), {entry(1, 1, op(del("k"))), entry(1, 1, op(del("k")))}, {entry(1, 0, op(del("k")))}, {entry(256, 1, op(del("k")))}, {entry(1, 4294967297, op(del("k")))}, {entry(1, 1, api.Op{})}} {
			want(t, b.do(rebase(len(b.m.Done()), bad)), api.BadBatch)
			want(t, b.do(rebase(-1, bad)), api.BadBatch)
		}
		b.drained()
	}
	if wrong < 500 {
		t.Fatal(wrong)
	}
}

// Numbers are counted over all watchers that ever were.
func TestWatch(t *testing.T) {
	for most := 1; most <= 8; most++ {
		b := begin(t, api.Config{Watchers: most, Queue: 1})
		given := 0
		for i := range 30 {
			r := b.do(watch(fmt.Sprint(i)))
			if len(b.k.lookers) == most && r.Code == api.TooManyWatchers {
				want(t, b.do(watch("")), api.TooManyWatchers)
				want(t, b.do(unwatch(b.m.Watchers()[i%most])), api.OK)
				continue
			}
			if given++; told(r) != told(api.Reply{N: given}) {
				t.Fatalf("%d: %s, not %d", most, told(r), given)
			}
		}
		for _, number := range b.m.Watchers() {
			want(t, b.do(unwatch(number)), api.OK)
			want(t, b.do(unwatch(number)), api.NoWatcher)
		}
		if r := b.do(watch("")); r.N != given+1 || len(b.m.Watchers()) != 1 {
			t.Fatal(told(r))
		}
	}
}

func TestNoWatcher(t *testing.T) {
	b := filled(t, roomFor, 1)
	for range 4 {
		b.do(watch(""))
	}
	b.do(unwatch(1))
	b.do(unwatch(3))
	for _, n := range append([]int{0, -1, -2, 1, 3, 5, 6, 256 + 2, 1<<32 + 2}, ends...) {
		for _, a := range []ask{poll(n, 0), poll(n, 1), poll(n, -1), poll(n, math.MaxInt), unwatch(n), resync(n)} {
			want(t, b.do(a), api.NoWatcher)
		}
	}
	if l := b.m.Watchers(); !slices.Equal(l, []int{2, 4}) {
		t.Fatal(l)
	}
	b.drained()
}

// prefixes have keys that begin with them, are them, are pieces of them, or differ in the last byte.
func TestPrefixes(t *testing.T) {
	keys := []string{"", "a", "ab", "abc", "abd", "ac", "b", "ab\x00", "ab\xff", "\xc3\xa9", "\xc3\xa8", "\xc3", "\xff", "\xff\xff", "0123456789abcdef", "0123456789abcde", "A", "a\x00", "kab"}
	for _, prefix := range append([]string{"0123456789abcdefg", strings.Repeat("a", 300), "abcd", "ab\xff\xff", "b\x00"}, keys...) {
		b := begin(t, api.Config{Cap: 32, Queue: 64, Watchers: 2})
		b.do(watch(prefix))
		b.do(watch(prefix))
		var l []api.Change
		var pairs []api.Pair
		for _, key := range keys {
			b.enter(op(put(key, "v"+key)))
			if strings.HasPrefix(key, prefix) {
				l = append(l, api.Change{Key: key, Has: true, Value: "v" + key})
				pairs = append(pairs, api.Pair{Key: key, Value: "v" + key})
			}
		}
		slices.SortFunc(pairs, func(a, b api.Pair) int { return strings.Compare(a.Key, b.Key) })
		wantTold(t, told(b.do(poll(1, 64))), told(api.Reply{Changes: l}))
		wantTold(t, told(b.do(poll(2, 64))), told(api.Reply{Changes: l}))
		wantTold(t, told(b.do(resync(1))), told(api.Reply{Pairs: pairs}))
		for _, key := range keys {
			b.merge(len(b.m.Done()), []api.Entry{entry(1, len(b.m.Done())+1, op(put("new"+key, "")))})
		}
		b.drained()
	}
}

// What was made ahead of Watch is not told, what Mutate and Rebase make behind it is, in order, by all ways to call them.
func TestTold(t *testing.T) {
	b := begin(t, roomFor)
	b.enter(op(put("k", "ahead"), put("l", "ahead")))
	b.do(watch("k"))
	b.enter(op(put("k", "1"), put("l", "1"), put("ka", "1")))
	b.do(watch(""))
	b.do(mutate(op(del("l"), put("kb", "2"))))
	b.do(watch("l"))
	b.merge(0, []api.Entry{entry(1, 1, op(put("l", "3"), put("kc", "3"))), entry(0, 2, op(put("k", "3")))})
	b.do(rebase(2, []api.Entry{entry(1, 2, op(put("lz", "4"), put("kd", "4")))}))
	b.enter(when(op(put("k", "no")), lacks("k")))
	b.enter(op(put("k", "ahead")))
	for _, a := range []ask{read("k"), snapshot, collect, resync(9), watch("kk"), rebase(0, nil), mutate(api.Op{})} {
		b.do(a)
	}
	for number, wanted := range map[int]string{
		1: ` "k" true "1" "ka" true "1" "kb" true "2" "k" true "ahead" "ka" false "" "kc" true "3" "kd" true "4"`,
		2: ` "kb" true "2" "l" false "" "k" true "ahead" "ka" false "" "kc" true "3" "kd" true "4" "lz" true "4"`,
		3: ` "lz" true "4"`,
		4: ``,
	} {
		wantTold(t, toldChanges(b.do(poll(number, 64)).Changes), wanted)
		wantTold(t, told(b.do(poll(number, 64))), told(api.Reply{}))
	}
}

func TestPoll(t *testing.T) {
	for _, came := range []int{0, 1, 2, 5, 8} {
		for _, n := range append([]int{-1, 0, 1, 2, came - 1, came, came + 1, 64, 65, -came}, ends...) {
			b := begin(t, api.Config{Cap: 32, Queue: 8, Watchers: 2})
			b.do(watch("k"))
			b.do(watch(""))
			b.enter(op(put("other", "x")))
			var l []api.Change
			for i := range came {
				b.enter(op(put("k", fmt.Sprint(i))))
				l = append(l, api.Change{Key: "k", Has: true, Value: fmt.Sprint(i)})
			}
			first := min(max(n, 0), came)
			wantTold(t, told(b.do(poll(1, n))), told(api.Reply{Changes: l[:first]}))
			b.enter(op(put("k", "more")))
			l = append(l, api.Change{Key: "k", Has: true, Value: "more"})
			if first == 0 && came == 8 {
				l = l[:8]
			}
			wantTold(t, told(b.do(poll(1, 9))), told(api.Reply{Changes: l[first:]}))
			want(t, b.do(poll(1, n)), map[bool]api.Code{true: api.Overflow, false: api.OK}[len(l) == 8 && first == 0])
		}
	}
}

// A box that is just full, and one change beyond it, in one call and over several.
func TestOverflow(t *testing.T) {
	four := op(put("k1", "x"), put("k2", "x"), put("k3", "x"), put("k4", "x"))
	for _, room := range []int{0, 1, 2, 3, 4, 5} {
		for _, whole := range []bool{true, false} {
			for _, merged := range []bool{true, false} {
				b := begin(t, api.Config{Cap: 32, Queue: room, Watchers: 2})
				b.do(watch("k"))
				b.do(watch("none"))
				ops := []api.Op{four}
				if !whole {
					ops = nil
					for _, s := range four.Steps {
						ops = append(ops, op(s))
					}
				}
				for i, o := range ops {
					if merged {
						b.merge(i, []api.Entry{entry(1, i+1, o)})
					} else {
						b.enter(o)
					}
				}
				var l []api.Change
				for i := range min(room, 4) {
					l = append(l, api.Change{Key: fmt.Sprint("k", i+1), Has: true, Value: "x"})
				}
				for len(l) > 0 {
					wantTold(t, told(b.do(poll(1, 0))), told(api.Reply{}))
					n := min(2, len(l))
					wantTold(t, told(b.do(poll(1, n))), told(api.Reply{Changes: l[:n]}))
					l = l[n:]
				}
				over := map[bool]api.Code{true: api.Overflow, false: api.OK}[room < 4]
				for _, n := range append([]int{0, 1, -1, 64}, ends...) {
					want(t, b.do(poll(1, n)), over)
					want(t, b.do(poll(2, n)), api.OK)
					b.enter(op(put("other", fmt.Sprint(n))))
				}
			}
		}
	}
}

// Behind the first change that was too much nothing more comes, though there is room again, till Resync.
func TestOverflowTillResync(t *testing.T) {
	b := begin(t, api.Config{Cap: 32, Queue: 2, Watchers: 2})
	b.do(watch("k"))
	for turn := range 3 {
		was := fmt.Sprint(turn)
		for i := range 4 {
			b.enter(op(put("k", was+fmt.Sprint(i))))
		}
		wantTold(t, told(b.do(poll(1, 1))), told(api.Reply{Changes: []api.Change{{Key: "k", Has: true, Value: was + "0"}}}))
		b.enter(op(put("k", "lost")))
		wantTold(t, told(b.do(poll(1, 9))), told(api.Reply{Changes: []api.Change{{Key: "k", Has: true, Value: was + "1"}}}))
		for range 3 {
			want(t, b.do(poll(1, 1)), api.Overflow)
			b.enter(op(add("n", 1)))
			want(t, b.do(poll(1, 0)), api.Overflow)
		}
		b.enter(op(put("k", "now"+was)))
		wantTold(t, told(b.do(resync(1))), told(api.Reply{Pairs: []api.Pair{{Key: "k", Value: "now" + was}}}))
		wantTold(t, told(b.do(poll(1, 9))), told(api.Reply{}))
	}
	b.drained()
}

// Resync empties a box also when it was not full, and tells those pairs that the prefix has.
func TestResync(t *testing.T) {
	b := begin(t, api.Config{Cap: 32, Queue: 8, Watchers: 3})
	b.do(watch("k"))
	b.do(watch("k"))
	b.do(watch("none"))
	b.enter(op(put("k", "1"), put("kz", ""), put("j", "2"), put("l", "3")))
	b.enter(op(put("ka", "4")))
	b.merge(0, []api.Entry{entry(1, 1, op(put("kb", "5"), put("jk", "6")))})
	r, l := b.m.Do(resync(1).call)
	b.k.do(resync(1))
	wantTold(t, told(r), told(api.Reply{Pairs: []api.Pair{{Key: "k", Value: "1"}, {Key: "ka", Value: "4"}, {Key: "kb", Value: "5"}, {Key: "kz"}}}))
	wantTold(t, toldChanges(l), "")
	wantTold(t, told(b.do(poll(1, 9))), told(api.Reply{}))
	if n := len(b.do(poll(2, 9)).Changes); n != 4 {
		t.Fatal(n)
	}
	wantTold(t, told(b.do(resync(3))), told(api.Reply{}))
	b.enter(op(del("k")))
	wantTold(t, told(b.do(poll(1, 9))), told(api.Reply{Changes: []api.Change{{Key: "k"}}}))
	b.drained()
}

// A watcher that is none any more leaves the others as they are.
func TestUnwatch(t *testing.T) {
	b := begin(t, api.Config{Cap: 32, Queue: 8, Watchers: 3})
	for range 3 {
		b.do(watch("k"))
	}
	b.enter(op(put("k", "1")))
	wantTold(t, told(b.do(unwatch(2))), told(api.Reply{}))
	b.enter(op(put("k", "2")))
	want(t, b.do(poll(2, 9)), api.NoWatcher)
	want(t, b.do(resync(2)), api.NoWatcher)
	want(t, b.do(unwatch(2)), api.NoWatcher)
	if r := b.do(watch("k")); r.N != 4 {
		t.Fatal(told(r))
	}
	b.enter(op(put("k", "3")))
	for number, n := range map[int]int{1: 3, 3: 3, 4: 1} {
		if l := b.do(poll(number, 9)).Changes; len(l) != n || l[n-1].Value != "3" {
			t.Fatal(number, toldChanges(l))
		}
	}
	b.drained()
}

func TestCollect(t *testing.T) {
	b := filled(t, roomFor, 3)
	b.do(watch(""))
	b.enter(op(put("k", "v")))
	for range 3 {
		r, l := b.m.Do(collect.call)
		wantTold(t, told(r), told(api.Reply{}))
		wantTold(t, toldChanges(l), "")
	}
	b.check()
	b.drained()
}

// P16.3

func TestTheRest(t *testing.T) {
	b := begin(t, api.Config{Cap: 3, Queue: 1, Watchers: 3})
	one, two := when(op(put("a", "1")), lacks("z")), op(add("n", 4))
	b.enter(one)
	b.do(mutate(two))
	theirs := entry(9, 300, op(put("t", "")))
	b.merge(0, []api.Entry{theirs, entry(0, 2, two)})
	for range 3 {
		b.do(watch("k"))
	}
	b.do(unwatch(2))
	wantTold(t, toldPairs(b.m.State()), ` "a"="1" "n"="4" "t"=""`)
	wantTold(t, toldEntries(b.m.Done()), toldEntries([]api.Entry{theirs, entry(0, 2, two)}))
	wantTold(t, toldEntries(b.m.Waits()), toldEntries([]api.Entry{entry(0, 1, one)}))
	if l := b.m.Watchers(); b.m.Issued() != 2 || !slices.Equal(l, []int{1, 3}) {
		t.Fatal(b.m.Issued(), l)
	}
}

// The numbers rise, whatever the order in which a map is gone through.
func TestWatchersRise(t *testing.T) {
	b := begin(t, roomFor)
	for i := range 100 {
		if r := b.do(watch("")); r.Code == api.TooManyWatchers {
			b.do(unwatch(b.m.Watchers()[i*i%8]))
		}
		if l := b.m.Watchers(); !slices.IsSorted(l) {
			t.Fatal(l)
		}
	}
}

// P16.4

var anyKeys = []string{"", "a", "ab", "abc", "b", "n", "n", "m", "\xff", "0123456789abcdef"}

func anyKey(r *rand.Rand) string { return anyKeys[r.Intn(len(anyKeys))] }

func anyValue(r *rand.Rand) string {
	return []string{"", "0", "1", "-5", "12", "x", "9223372036854775807", "-9223372036854775808", "01", "v\xff"}[r.Intn(10)]
}

func anyOp(r *rand.Rand) api.Op {
	if r.Intn(25) == 0 {
		l := badOps()
		return l[r.Intn(len(l))]
	}
	var o api.Op
	for range max(r.Intn(6)-3, 0) {
		g := []api.Guard{has(anyKey(r)), lacks(anyKey(r)), equals(anyKey(r), anyValue(r))}
		o.Guards = append(o.Guards, g[r.Intn(3)])
	}
	for range 1 + max(r.Intn(7)-3, 0) {
		s := []api.Step{put(anyKey(r), anyValue(r)), del(anyKey(r)), add(anyKey(r), int64(r.Intn(9)-4)), cas(anyKey(r), anyValue(r), anyValue(r))}
		o.Steps = append(o.Steps, s[r.Intn(4)])
	}
	return o
}

// anyRow has names of those that wait, of done ones and of others, with their operations or with any.
func anyRow(r *rand.Rand, k *book) []api.Entry {
	var l []api.Entry
	for _, i := range r.Perm(len(k.waits)) {
		if e := copyOf(k.waits[i]); r.Intn(3) == 0 && len(l) < 16 {
			if r.Intn(4) == 0 {
				e.Op = op(add(anyKey(r), 1))
			}
			l = append(l, e)
		}
	}
	for range max(r.Intn(8)-3, 0) {
		e := entry(1+r.Intn(3), 1+r.Intn(400), op(put(anyKey(r), anyValue(r))))
		if r.Intn(3) > 0 {
			e.Op = anyOp(r)
		}
		l = slices.Insert(l, r.Intn(len(l)+1), e)
	}
	switch r.Intn(12) {
	case 0:
		if len(k.done) > 0 {
			l = append(l, copyOf(k.done[r.Intn(len(k.done))]))
		}
	case 1:
		l = append(l, entry(0, k.issued+r.Intn(3), op(del("a"))))
	}
	return l
}

func anyStart(r *rand.Rand, k *book) int {
	if r.Intn(6) == 0 {
		return len(k.done) + r.Intn(5) - 2
	}
	return len(k.done)
}

func anyCount(r *rand.Rand) int {
	if r.Intn(3) == 0 {
		return counts[r.Intn(len(counts))]
	}
	return r.Intn(5)
}

func anyConfig(r *rand.Rand) api.Config {
	return api.Config{Cap: anyCount(r) + r.Intn(2), Pins: anyCount(r), Shelves: anyCount(r), Queue: anyCount(r), Watchers: anyCount(r), Seed: r.Uint64()}
}

// anyWatched is a watcher's number, more often than not of one that is there.
func anyWatched(r *rand.Rand, k *book) int {
	if r.Intn(5) == 0 || len(k.lookers) == 0 {
		return r.Intn(k.given+3) - 1
	}
	return k.lookers[r.Intn(len(k.lookers))].number
}

// anyCall does one call.
func (b *both) anyCall(r *rand.Rand) {
	b.t.Helper()
	switch r.Intn(16) {
	case 0, 1, 2:
		b.enter(anyOp(r))
	case 3, 4:
		o := anyOp(r)
		a := mutate(o)
		b.do(asked(a.call))
	case 5, 6:
		b.merge(anyStart(r, b.k), anyRow(r, b.k))
	case 7:
		if l := anyRow(r, b.k); mayBeBatch(l) {
			b.do(rebase(anyStart(r, b.k), l))
		}
	case 8:
		b.do(read(anyKey(r)))
	case 9:
		b.do(snapshot)
	case 10:
		b.do(watch([]string{"", "a", "ab", "n", "\xff", "0123456789abcdef", "none"}[r.Intn(7)]))
	case 11, 12:
		b.do(poll(anyWatched(r, b.k), anyCount(r)))
	case 13:
		b.do(resync(anyWatched(r, b.k)))
	case 14:
		if r.Intn(3) == 0 {
			b.do(unwatch(anyWatched(r, b.k)))
		}
	case 15:
		b.do([]ask{collect, {call: api.Call{Kind: anyCount(r) + 10}}, {call: api.Call{Kind: -anyCount(r)}}}[r.Intn(1+2*r.Intn(2))])
	}
}

func anyModel(r *rand.Rand, t *testing.T, calls int) *both {
	b := begin(t, anyConfig(r))
	for range calls {
		b.anyCall(r)
	}
	return b
}

func TestAnyCalls(t *testing.T) {
	r := rand.New(rand.NewSource(16))
	for range 200 {
		b := anyModel(r, t, 60)
		b.drained()
	}
	for range 12 {
		b := begin(t, roomFor)
		for range 120 {
			b.anyCall(r)
		}
		b.drained()
	}
}

// All rows of four calls, of a model with little room.
func TestAllRowsOfCalls(t *testing.T) {
	const kinds = 10
	for _, c := range []api.Config{{Cap: 1, Queue: 1, Watchers: 1}, {Cap: 2, Queue: 2, Watchers: 2}} {
		for which := range kinds * kinds * kinds * kinds {
			b := begin(t, c)
			for i, rest := 0, which; i < 4; i, rest = i+1, rest/kinds {
				switch rest % kinds {
				case 0:
					b.enter(op(add("n", 1)))
				case 1:
					b.enter(when(op(put("n", "x"), del("k")), has("k")))
				case 2:
					b.merge(len(b.k.done), []api.Entry{entry(0, b.k.issued, op(add("n", 1)))})
				case 3:
					b.merge(len(b.k.done), []api.Entry{entry(1, i+1, op(put("k", fmt.Sprint(i))))})
				case 4:
					b.merge(0, nil)
				case 5:
					b.do(watch(""))
				case 6:
					b.do(watch("k"))
				case 7:
					b.do(poll(1, 1))
				case 8:
					b.do(resync(1))
				case 9:
					b.do(unwatch(1))
				}
			}
			b.do(poll(1, 9))
			b.do(poll(1, 9))
		}
	}
}

// The layer below tells the same state of the entries, and the changes that were told lead to it.
func TestStateIsAFold(t *testing.T) {
	r := rand.New(rand.NewSource(164))
	for range 40 {
		b := anyModel(r, t, 60)
		wantTold(t, toldPairs(b.m.State()), toldPairs(fold.All(slices.Concat(b.m.Done(), b.m.Waits()))))
		wantTold(t, toldPairs(b.m.State()), toldPairs(fold.On(fold.All(b.m.Done()), b.m.Waits())))
	}
}

// With a code nothing has changed: another model that was never asked tells the same of all later calls.
func TestCodesChangeNothing(t *testing.T) {
	r := rand.New(rand.NewSource(165))
	for range 60 {
		c := api.Config{Cap: r.Intn(4), Queue: r.Intn(3), Watchers: 1 + r.Intn(3)}
		asked, plain := begin(t, c), begin(t, c)
		for range 40 {
			for _, a := range []ask{mutate(api.Op{}), {call: api.Call{}}, {call: api.Call{Kind: 10}}, rebase(-1, own(1)), rebase(len(asked.k.done), own(asked.k.issued+1)), {call: api.Call{Kind: api.Rebase}}, poll(0, 1), unwatch(99), resync(-1)} {
				if asked.do(a).Code == api.OK {
					t.Fatal(a.call)
				}
			}
			if len(asked.k.waits) == c.Cap {
				want(t, asked.enter(op(put("k", "v"))), api.Full)
			}
			if len(asked.k.lookers) == c.Watchers {
				want(t, asked.do(watch("")), api.TooManyWatchers)
			}
			for _, w := range asked.k.lookers {
				if w.over && len(w.came) == 0 {
					want(t, asked.do(poll(w.number, r.Intn(3))), api.Overflow)
				}
			}
			seed := r.Int63()
			asked.anyCall(rand.New(rand.NewSource(seed)))
			plain.anyCall(rand.New(rand.NewSource(seed)))
		}
		asked.drained()
		plain.drained()
		wantTold(t, toldEntries(asked.m.Done()), toldEntries(plain.m.Done()))
		wantTold(t, toldEntries(asked.m.Waits()), toldEntries(plain.m.Waits()))
		wantTold(t, toldPairs(asked.m.State()), toldPairs(plain.m.State()))
	}
}

// A nil model and one that New did not make

func TestNoModel(t *testing.T) {
	for _, m := range []*Model{nil, {}, new(Model)} {
		for range 2 {
			for kind := -2; kind < 12; kind++ {
				for _, c := range []api.Call{{}, {Text: "k", Start: 1, N: 1}, mutate(op(put("k", "v"))).call, rebase(0, row(1, 1, 1)).call} {
					c.Kind = kind
					r, l := m.Do(c)
					if told(r) != told(api.Reply{}) || l != nil {
						t.Fatal(c, told(r), toldChanges(l))
					}
				}
			}
			for _, o := range append(badOps(), op(put("k", "v"))) {
				if r, l := m.Enter(o); told(r) != told(api.Reply{}) || l != nil {
					t.Fatal(told(r), toldChanges(l))
				}
			}
			for _, l := range append(badRows(), nil, row(1, 1, 1), own(1)) {
				for _, start := range starts(0) {
					r, changes := m.Merge(start, l)
					if told(r) != told(api.Reply{}) || changes != nil || m.Would(start, l) != api.OK || m.Acked(l) != 0 {
						t.Fatal(told(r), toldChanges(changes), m.Would(start, l), m.Acked(l))
					}
				}
			}
			if m.State() != nil || m.Done() != nil || m.Waits() != nil || m.Issued() != 0 || m.Watchers() != nil {
				t.Fatal(m.State(), m.Done(), m.Waits(), m.Issued(), m.Watchers())
			}
		}
	}
}

// Memory

// What is handed in is not kept: a later store into it changes no model. (What both does of each call, spelt out once.)
func TestHandedInIsNotKept(t *testing.T) {
	b := begin(t, roomFor)
	o := roomyOp(when(op(put("k", "v"), add("n", 1)), lacks("k"), lacks("l")))
	b.m.Enter(o)
	spoilOp(o)
	l := roomyEntries([]api.Entry{entry(1, 1, when(op(put("m", "v")), lacks("k"))), entry(1, 2, op(put("j", "v")))})
	b.m.Merge(0, l)
	spoilEntries(l)
	wantTold(t, toldPairs(b.m.State()), ` "j"="v" "k"="v" "m"="v" "n"="1"`)
	b.m.Merge(2, []api.Entry{entry(1, 3, op(del("m")))})
	wantTold(t, toldPairs(b.m.State()), ` "j"="v" "k"="v" "n"="1"`)
	wantTold(t, toldEntries(b.m.Waits()), toldEntries([]api.Entry{entry(0, 1, when(op(put("k", "v"), add("n", 1)), lacks("k"), lacks("l")))}))
	wantTold(t, toldEntries(b.m.Done()[:2]), toldEntries([]api.Entry{entry(1, 1, when(op(put("m", "v")), lacks("k"))), entry(1, 2, op(put("j", "v")))}))
}

// One row of entries that shares its lists may come again and again.
func TestHandedInSharesLists(t *testing.T) {
	b := begin(t, roomFor)
	o := when(op(add("n", 1), put("k", "v")), lacks("z"))
	l := []api.Entry{entry(1, 1, o), entry(1, 2, o), entry(1, 3, api.Op{Guards: o.Guards[:0], Steps: o.Steps[:1]})}
	b.m.Merge(0, l)
	b.m.Enter(o)
	b.m.Enter(o)
	o.Steps[0].N, o.Guards[0].Key = 50, "n"
	wantTold(t, toldPairs(b.m.State()), ` "k"="v" "n"="5"`)
	b.m.Merge(3, []api.Entry{entry(1, 4, op(add("n", 1)))})
	wantTold(t, toldPairs(b.m.State()), ` "k"="v" "n"="6"`)
	done := b.m.Done()
	done[0].Op.Steps[0].N = 70
	if done[1].Op.Steps[0].N != 1 || done[2].Op.Steps[0].N != 1 || b.m.Waits()[1].Op.Steps[0].N != 1 {
		t.Fatal(toldEntries(done))
	}
}

// lists is what a model hands out, as texts that tell it later.
type lists struct {
	entries [][]api.Entry
	pairs   [][]api.Pair
	changes [][]api.Change
	numbers [][]int
}

func (l *lists) told() string {
	var b strings.Builder
	for _, x := range l.entries {
		b.WriteString(toldEntries(x))
	}
	for _, x := range l.pairs {
		b.WriteString(toldPairs(x) + "\n")
	}
	for _, x := range l.changes {
		b.WriteString(toldChanges(x) + "\n")
	}
	return b.String() + fmt.Sprint(l.numbers)
}

// out is all that the model hands out now, and behind some calls more.
func out(m *Model, r *rand.Rand) *lists {
	l := &lists{}
	reply, changes := m.Enter(op(put(anyKey(r), fmt.Sprint(r.Intn(99))), put("k", fmt.Sprint(r.Intn(99)))))
	l.changes = append(l.changes, changes, reply.Changes)
	_, changes = m.Merge(len(m.Done()), append(m.Waits()[:min(1, len(m.Waits()))], entry(1, len(m.Done())+1, op(put("l", fmt.Sprint(r.Intn(99)))))))
	l.changes = append(l.changes, changes)
	for _, c := range []api.Call{snapshot.call, resync(1).call, poll(2, 1).call, poll(2, 2).call, poll(1, 9).call} {
		reply, changes = m.Do(c)
		l.pairs, l.changes = append(l.pairs, reply.Pairs), append(l.changes, reply.Changes, changes)
	}
	l.entries, l.pairs, l.numbers = append(l.entries, m.Done(), m.Waits()), append(l.pairs, m.State()), append(l.numbers, m.Watchers())
	return l
}

// watched is a model with two watchers of all keys.
func watched() *Model {
	m := New(roomFor)
	m.Do(watch("").call)
	m.Do(watch("").call)
	return m
}

// A later call changes no list that was handed out.
func TestHandedOutStays(t *testing.T) {
	r := rand.New(rand.NewSource(166))
	for range 30 {
		m := watched()
		var all []*lists
		var were []string
		for range 30 {
			l := out(m, r)
			all, were = append(all, l), append(were, l.told())
		}
		for i, l := range all {
			wantTold(t, l.told(), were[i])
		}
	}
}

// An append to a list that was handed out, or a store into it, changes no model and no other list.
func TestHandedOutIsNewMemory(t *testing.T) {
	r := rand.New(rand.NewSource(167))
	for range 40 {
		m := watched()
		for range 5 {
			one, two := out(m, r), out(m, r)
			was, state, done, waits := two.told(), toldPairs(m.State()), toldEntries(m.Done()), toldEntries(m.Waits())
			for _, x := range one.entries {
				for i := range x {
					_, _ = append(x[i].Op.Guards, has("x")), append(x[i].Op.Steps, del("x"))
				}
				_ = append(x, entry(9, 9, op(del("x"))))
				spoilEntries(x)
			}
			for _, x := range one.pairs {
				_ = append(x, api.Pair{Key: "x"})
				spoil(x, api.Pair{Key: "y"})
			}
			for _, x := range one.changes {
				_ = append(x, api.Change{Key: "x"})
				spoil(x, api.Change{Key: "y"})
			}
			for _, x := range one.numbers {
				_ = append(x, 9)
				spoil(x, 8)
			}
			if two.told() != was || toldPairs(m.State()) != state || toldEntries(m.Done()) != done || toldEntries(m.Waits()) != waits {
				t.Fatalf("%s\nwas %s", two.told(), was)
			}
		}
	}
}

func TestModelsHaveNothingInCommon(t *testing.T) {
	r := rand.New(rand.NewSource(168))
	for range 20 {
		c := anyConfig(r)
		l := []*both{begin(t, c), begin(t, c), begin(t, anyConfig(r))}
		for range 60 {
			l[r.Intn(3)].anyCall(r)
			for _, b := range l {
				b.check()
			}
		}
		for _, b := range l {
			b.drained()
		}
	}
}

// A model's texts are its own: they stay, whatever becomes of the memory in which they came.
func TestTextsAreNotKept(t *testing.T) {
	var memory [][]byte
	text := func(s string) string {
		bytes := []byte(s)
		memory = append(memory, bytes)
		return unsafe.String(unsafe.SliceData(bytes), len(bytes))
	}
	parts := func(key string) api.Op {
		return when(op(put(text(key), text("value")), cas(text(key), text("value"), text("other"))), equals(text("is"), text("x")))
	}
	b := begin(t, roomFor)
	b.m.Do(api.Call{Kind: api.Watch, Text: text("k")})
	b.m.Do(api.Call{Kind: api.Mutate, Text: text(mutate(op(put("is", "x"))).call.Text)})
	b.m.Enter(parts("k1"))
	b.m.Merge(0, []api.Entry{entry(0, 1, op(put(text("is"), text("x")))), entry(1, 1, parts("k2"))})
	b.m.Do(api.Call{Kind: api.Rebase, Start: 2, Text: text(rebase(0, []api.Entry{entry(1, 2, op(put("k3", "value")))}).call.Text)})
	b.m.Enter(parts("k4"))
	b.m.Do(api.Call{Kind: api.Mutate, Text: text(mutate(op(put("k5", "value"))).call.Text)})
	seen := func() string {
		return toldPairs(b.m.State()) + toldEntries(b.m.Done()) + toldEntries(b.m.Waits())
	}
	was := seen()
	for _, bytes := range memory {
		for i := range bytes {
			bytes[i] = '-'
		}
	}
	wantTold(t, seen(), was)
	r, _ := b.m.Do(poll(1, 9).call)
	wantTold(t, toldChanges(r.Changes), ` "k1" true "other" "k2" true "other" "k3" true "value" "k4" true "other" "k5" true "value"`)
	r, _ = b.m.Do(resync(1).call)
	wantTold(t, toldPairs(r.Pairs), ` "k1"="other" "k2"="other" "k3"="value" "k4"="other" "k5"="value"`)
}

// What the README tells of this layer.
func TestReadme(t *testing.T) {
	m := New(api.Config{Cap: 1, Queue: 2, Watchers: 1})
	if r, _ := m.Do(watch("").call); r.N != 1 {
		t.Fatal(told(r))
	}
	want := func(r api.Reply, l []api.Change, wanted api.Reply, changes string) {
		t.Helper()
		wantTold(t, told(r)+toldChanges(l), told(wanted)+changes)
	}
	o := op(put("k", "v"))
	r, l := m.Enter(o)
	want(r, l, api.Reply{Id: api.Id{Seq: 1}, Took: true}, ` "k" true "v"`)
	r, l = m.Enter(o)
	want(r, l, api.Reply{Code: api.Full}, "")
	entries := []api.Entry{entry(3, 7, op(put("k", "w"))), entry(0, 1, o)}
	if m.Would(0, entries) != api.OK || m.Acked(entries) != 1 {
		t.Fatal(m.Would(0, entries), m.Acked(entries))
	}
	r, l = m.Merge(0, entries)
	want(r, l, api.Reply{N: 1}, "")
	r, l = m.Enter(op(del("k")))
	want(r, l, api.Reply{Id: api.Id{Seq: 2}, Took: true}, ` "k" false ""`)
	r, l = m.Do(poll(1, 9).call)
	want(r, l, api.Reply{Changes: []api.Change{{Key: "k", Has: true, Value: "v"}, {Key: "k"}}}, "")
	if len(m.State()) != 0 || len(m.Done()) != 2 || len(m.Waits()) != 1 || m.Issued() != 2 || len(m.Watchers()) != 1 {
		t.Fatal(m.State(), m.Done(), m.Waits(), m.Issued(), m.Watchers())
	}
}
