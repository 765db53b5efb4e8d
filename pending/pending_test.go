package pending

import (
	"fmt"
	"math"
	"math/rand"
	"slices"
	"strings"
	"testing"
	"unsafe"

	"philtre/api"
)

// entry is an operation of that key, by a name whose Origin is 0.
func entry(seq int, key string) api.Entry {
	return api.Entry{Id: api.Id{Seq: seq}, Op: api.Op{Guards: []api.Guard{{Kind: api.Lacks, Key: key}}, Steps: []api.Step{{Kind: api.Put, Key: key, Value: "v"}, {Kind: api.Delete, Key: "d"}}}}
}

// oddOps may be, or may not: a row asks none of this.
func oddOps() []api.Op {
	key, value := strings.Repeat("k\x80", 20), strings.Repeat("v\xff", 40)
	return []api.Op{
		{}, {Guards: []api.Guard{{}}}, {Steps: []api.Step{{}}}, {Guards: []api.Guard{{Kind: -1, Key: key, Value: value}}},
		{Steps: []api.Step{{Kind: math.MaxInt, Key: key, Value: value, Old: value, N: math.MinInt64}}},
		{Guards: slices.Repeat([]api.Guard{{Kind: api.Has, Value: "v"}}, 13), Steps: slices.Repeat([]api.Step{{Kind: api.Add, Key: "n", N: 5}}, 70)},
		{Steps: []api.Step{{Kind: api.Cas, Key: "c", Old: "o", Value: "v"}}},
		{Guards: []api.Guard{{Kind: api.Equals, Key: "e", Value: "v"}, {Kind: api.Lacks}}, Steps: []api.Step{{Kind: api.Add, Key: "n", N: math.MaxInt64}, {Kind: api.Delete}}},
	}
}

// oddIds are each once, and some of them may not be.
var oddIds = []api.Id{{}, {Seq: 1}, {Origin: 1}, {Origin: 1, Seq: 1}, {Origin: 1, Seq: 2}, {Origin: 2, Seq: 1}, {Origin: 2, Seq: 2}, {Origin: -1, Seq: 1}, {Origin: 1, Seq: -1}, {Origin: 255, Seq: 4294967296}, {Origin: 256, Seq: 1}, {Origin: 4294967296, Seq: 255}, {Origin: 0, Seq: 4294967297}, {Origin: 1, Seq: 4294967297}, {Origin: math.MinInt, Seq: math.MaxInt}, {Origin: math.MaxInt, Seq: math.MinInt}, {Origin: math.MinInt, Seq: math.MinInt}, {Origin: math.MaxInt, Seq: math.MaxInt}}

// told is entries as a text: of two rows the same one just where they have the same entries in the same order.
func told(l []api.Entry) string {
	var b strings.Builder
	for _, e := range l {
		fmt.Fprintf(&b, "%d.%d", e.Id.Origin, e.Id.Seq)
		for _, g := range e.Op.Guards {
			fmt.Fprintf(&b, " guard %d %q %q", g.Kind, g.Key, g.Value)
		}
		for _, s := range e.Op.Steps {
			fmt.Fprintf(&b, " step %d %q %q %q %d", s.Kind, s.Key, s.Value, s.Old, s.N)
		}
		b.WriteString("\n")
	}
	return b.String()
}

// copyOf shares no list with e.
func copyOf(e api.Entry) api.Entry {
	e.Op = api.Op{Guards: slices.Clone(e.Op.Guards), Steps: slices.Clone(e.Op.Steps)}
	return e
}

// line is a row as it is reckoned here: the Id of each entry, and the entry as a text, in order.
type line struct {
	room  int
	ids   []api.Id
	texts []string
}

// lineOf is the line of a row that New made.
func lineOf(most int) *line {
	switch {
	case most < 0:
		return &line{}
	case most > 32:
		return &line{room: 32}
	}
	return &line{room: most}
}

func (k *line) add(e api.Entry) bool {
	if len(k.ids) == k.room || slices.Contains(k.ids, e.Id) {
		return false
	}
	k.ids, k.texts = append(k.ids, e.Id), append(k.texts, told([]api.Entry{e}))
	return true
}

// without is the line that stays.
func (k *line) without(l []api.Id) *line {
	left := &line{room: k.room}
	for i, id := range k.ids {
		if !slices.Contains(l, id) {
			left.ids, left.texts = append(left.ids, id), append(left.texts, k.texts[i])
		}
	}
	return left
}

func (k *line) told() string { return strings.Join(k.texts, "") }

// check holds all that is told of a row against the line, for the Ids that are there and some others.
func check(t *testing.T, r *Row, k *line) {
	t.Helper()
	all := r.All()
	if told(all) != k.told() || r.Len() != len(k.ids) || r.Room() != k.room-len(k.ids) {
		t.Fatalf("%d, room for %d:\n%s\nand not %d, room for %d:\n%s", r.Len(), r.Room(), told(all), len(k.ids), k.room-len(k.ids), k.told())
	}
	for i, e := range all {
		if e.Id != k.ids[i] {
			t.Fatalf("%v at %d, not %v", e.Id, i, k.ids[i])
		}
	}
	for _, id := range slices.Concat(k.ids, oddIds) {
		for _, id := range []api.Id{id, {Origin: id.Seq, Seq: id.Origin}, {Origin: id.Origin, Seq: id.Seq + 1}, {Origin: id.Origin - 1, Seq: id.Seq}} {
			if has := r.Has(id); has != slices.Contains(k.ids, id) {
				t.Fatalf("has %v: %v", id, has)
			}
		}
	}
}

// both is a row, and what it is reckoned to be.
type both struct {
	t *testing.T
	r *Row
	k *line
}

func begin(t *testing.T, most int) *both {
	return &both{t, New(most), lineOf(most)}
}

// full is a row of that many entries, with the Seqs 1, 2 and so on, and room for some more.
func full(t *testing.T, length, more int) *both {
	b := begin(t, length+more)
	for i := range length {
		b.add(entry(i+1, fmt.Sprint("k", i)))
	}
	return b
}

func (b *both) add(e api.Entry) bool {
	b.t.Helper()
	want := b.k.add(e)
	if added := b.r.Add(e); added != want {
		b.t.Fatalf("%v put into\n%s\n: %v", e, b.k.told(), added)
	}
	check(b.t, b.r, b.k)
	return want
}

// drop asks what stays, ahead of dropping.
func (b *both) drop(l []api.Id) {
	b.t.Helper()
	left := b.k.without(l)
	if stays := b.r.Without(l); told(stays) != left.told() {
		b.t.Fatalf("%s\nwithout %v:\n%s", b.k.told(), l, told(stays))
	}
	check(b.t, b.r, b.k)
	if gone := b.r.Drop(l); gone != len(b.k.ids)-len(left.ids) {
		b.t.Fatalf("%s\nwithout %v: %d gone", b.k.told(), l, gone)
	}
	b.k = left
	check(b.t, b.r, b.k)
}

func seqs(l ...int) []api.Id {
	var ids []api.Id
	for _, seq := range l {
		ids = append(ids, api.Id{Seq: seq})
	}
	return ids
}

// P14.1

func TestExample(t *testing.T) {
	r := New(2)
	if !r.Add(entry(1, "a")) || !r.Add(entry(2, "b")) || r.Add(entry(3, "c")) {
		t.Fatal(told(r.All()))
	}
	if n := r.Drop(seqs(1)); n != 1 || !r.Add(entry(3, "c")) {
		t.Fatal(n, told(r.All()))
	}
	if s := told(r.All()); s != told([]api.Entry{entry(2, "b"), entry(3, "c")}) {
		t.Fatal(s)
	}
}

func TestNew(t *testing.T) {
	for _, c := range []struct{ most, room int }{
		{0, 0}, {1, 1}, {2, 2}, {3, 3}, {16, 16}, {31, 31}, {32, 32}, {33, 32}, {34, 32}, {64, 32}, {255, 32}, {256, 32}, {257, 32}, {1 << 31, 32}, {1 << 32, 32}, {1<<32 + 1, 32}, {1 << 62, 32}, {math.MaxInt - 1, 32}, {math.MaxInt, 32},
		{-1, 0}, {-2, 0}, {-31, 0}, {-32, 0}, {-33, 0}, {-255, 0}, {-256, 0}, {-1<<31 + 1, 0}, {-1 << 31, 0}, {-1<<32 + 5, 0}, {math.MinInt + 1, 0}, {math.MinInt, 0},
	} {
		r := New(c.most)
		if r == nil || r.Len() != 0 || r.Room() != c.room || len(r.All()) != 0 || len(r.Without(oddIds)) != 0 || r.Drop(oddIds) != 0 {
			t.Fatalf("%d: %d, room for %d", c.most, r.Len(), r.Room())
		}
		check(t, r, &line{room: c.room})
	}
}

func TestAddUpToTheLast(t *testing.T) {
	for _, most := range []int{math.MinInt, -2, -1, 0, 1, 2, 3, 4, 5, 8, 15, 16, 17, 30, 31, 32, 33, 34, 64, math.MaxInt} {
		b := begin(t, most)
		for i := range 37 {
			if added := b.add(entry(i+1, "k")); added != (i < most && i < 32) {
				t.Fatalf("room for %d, at %d: %v", most, i, added)
			}
		}
		b.add(entry(1, "k"))
		b.add(entry(37, "k"))
	}
}

func TestAddAgain(t *testing.T) {
	for _, length := range []int{1, 2, 3, 4, 16, 31, 32} {
		for _, more := range []int{0, 1, 5} {
			b := full(t, length, more)
			was := told(b.r.All())
			for _, at := range []int{0, length / 2, length - 1} {
				for _, e := range []api.Entry{entry(at+1, fmt.Sprint("k", at)), entry(at+1, "other"), {Id: api.Id{Seq: at + 1}}} {
					if b.add(e) || told(b.r.All()) != was {
						t.Fatalf("%d of %d again: %s", at, length, told(b.r.All()))
					}
				}
			}
			if added := b.add(entry(length+1, "other")); added != (more > 0 && length < 32) {
				t.Fatalf("%d, and room for %d: %v", length, more, added)
			}
		}
	}
}

func TestAddOfLikeIds(t *testing.T) {
	for _, l := range [][]api.Id{
		{{Origin: 7, Seq: 1}, {Origin: 7, Seq: 2}, {Origin: 7, Seq: 3}, {Origin: 7, Seq: 4294967297}},
		{{Origin: 1, Seq: 7}, {Origin: 2, Seq: 7}, {Origin: 257, Seq: 7}, {Origin: 4294967297, Seq: 7}},
		{{Origin: 1, Seq: 2}, {Origin: 2, Seq: 1}, {Origin: 1, Seq: 1}, {Origin: 2, Seq: 2}},
		{{Origin: 3, Seq: 5}, {Origin: 4, Seq: 4}, {Origin: 5, Seq: 3}, {Origin: -3, Seq: -5}, {Origin: 3, Seq: -5}},
		{{Origin: 1, Seq: 23}, {Origin: 12, Seq: 3}, {Origin: 123}, {Seq: 123}},
		oddIds,
	} {
		b := begin(t, len(l))
		for _, id := range l {
			if !b.add(api.Entry{Id: id, Op: entry(1, "k").Op}) {
				t.Fatalf("%v was refused", id)
			}
		}
		for _, id := range l {
			b.drop([]api.Id{id})
			b.add(api.Entry{Id: id})
		}
	}
}

func TestAddAsksNothingElse(t *testing.T) {
	b := begin(t, 32)
	ops := oddOps()
	for i, id := range oddIds {
		e := api.Entry{Id: id, Op: ops[i%len(ops)]}
		if !b.add(e) || b.add(e) {
			t.Fatal(id)
		}
	}
	for i, o := range ops {
		r := New(1)
		e := api.Entry{Id: api.Id{Origin: 1, Seq: i}, Op: o}
		if !r.Add(e) || told(r.All()) != told([]api.Entry{e}) {
			t.Fatalf("%d: %s", i, told(r.All()))
		}
	}
}

func TestAddBehindDrop(t *testing.T) {
	for _, length := range []int{1, 2, 3, 31, 32} {
		for gone := 1; gone <= length; gone += 1 + length/6 {
			b := full(t, length, 0)
			b.add(entry(99, "none"))
			var l []api.Id
			for i := range gone {
				l = append(l, api.Id{Seq: length - i})
			}
			b.drop(l)
			for i := range gone {
				if e := entry(length-i, "again"); !b.add(e) || b.add(e) {
					t.Fatalf("%d of %d: at %d", gone, length, i)
				}
			}
			if b.add(entry(99, "none")) || b.add(entry(length, "none")) {
				t.Fatalf("%d of %d: one more", gone, length)
			}
		}
	}
}

// P14.2

// arranged is the same names once more: as they are, each of them twice, turned round, or among many others.
func arranged(l []api.Id, way int) []api.Id {
	switch way {
	case 1:
		return slices.Concat(l, l)
	case 2:
		slices.Reverse(l)
		return l
	case 3:
		return slices.Concat(oddIds, l, seqs(0, 77, -1), l)
	}
	return l
}

func TestDropOfAnySet(t *testing.T) {
	for length := range 6 {
		for which := range 1 << length {
			for way := range 4 {
				var l []api.Id
				for i := range length {
					if which>>i&1 == 1 {
						l = append(l, api.Id{Origin: 3, Seq: i + 5})
					}
				}
				b := begin(t, 6)
				for i := range length {
					e := entry(0, fmt.Sprint(i))
					e.Id = api.Id{Origin: 3, Seq: i + 5}
					b.add(e)
				}
				l = arranged(l, way)
				b.drop(l)
				b.drop(l)
			}
		}
	}
}

func TestDrop(t *testing.T) {
	for _, c := range []struct {
		l    []api.Id
		gone int
		left []int
	}{
		{nil, 0, []int{1, 2, 3, 4}}, {[]api.Id{}, 0, []int{1, 2, 3, 4}}, {seqs(5), 0, []int{1, 2, 3, 4}}, {seqs(0, -1, 5, 6, 7, 8, 9), 0, []int{1, 2, 3, 4}},
		{seqs(1), 1, []int{2, 3, 4}}, {seqs(2), 1, []int{1, 3, 4}}, {seqs(3), 1, []int{1, 2, 4}}, {seqs(4), 1, []int{1, 2, 3}}, {seqs(4, 4), 1, []int{1, 2, 3}},
		{seqs(4, 1), 2, []int{2, 3}}, {seqs(2, 3), 2, []int{1, 4}}, {seqs(3, 2, 3, 2), 2, []int{1, 4}}, {seqs(9, 3, 0, 2), 2, []int{1, 4}}, {seqs(4, 2, 1), 3, []int{3}},
		{seqs(1, 2, 3, 4), 4, nil}, {seqs(4, 3, 2, 1), 4, nil}, {seqs(3, 1, 1, 4, 2, 2, 4, 3), 4, nil}, {seqs(9, 8, 7, 6, 5, 4, 3, 2, 1, 0), 4, nil},
		{[]api.Id{{Origin: 1, Seq: 1}, {Origin: 1}, {Origin: 2}, {Origin: -1, Seq: 3}, {Origin: 4, Seq: 4}}, 0, []int{1, 2, 3, 4}},
	} {
		b := full(t, 4, 0)
		var want []api.Entry
		for _, seq := range c.left {
			want = append(want, entry(seq, fmt.Sprint("k", seq-1)))
		}
		if left := b.r.Without(c.l); told(left) != told(want) || b.r.Len() != 4 {
			t.Fatalf("%v: %s", c.l, told(left))
		}
		if gone := b.r.Drop(c.l); gone != c.gone || told(b.r.All()) != told(want) || b.r.Len() != 4-gone || b.r.Room() != gone {
			t.Fatalf("%v: %d gone, %s", c.l, gone, told(b.r.All()))
		}
		for seq := range 10 {
			if has := b.r.Has(api.Id{Seq: seq}); has != slices.Contains(c.left, seq) {
				t.Fatalf("%v: has %d: %v", c.l, seq, has)
			}
		}
	}
}

func TestDropOfMany(t *testing.T) {
	var l []api.Id
	for i := range 3000 {
		l = append(l, api.Id{Origin: i % 3, Seq: i/3 - 100})
	}
	for _, length := range []int{0, 1, 31, 32} {
		b := full(t, length, 0)
		b.drop(l)
		if b.r.Len() != 0 || b.r.Room() != length {
			t.Fatal(b.r.Len(), b.r.Room())
		}
		b.drop(l)
		b.add(entry(1, "k"))
		b.add(entry(33, "k"))
	}
}

// anyEntry has one of a few names, so that many of them are there already.
func anyEntry(r *rand.Rand) api.Entry {
	ops := oddOps()
	e := api.Entry{Id: anyId(r), Op: ops[r.Intn(len(ops))]}
	if r.Intn(2) == 0 {
		e.Op = entry(0, fmt.Sprint(r.Intn(1000))).Op
	}
	return e
}

func anyId(r *rand.Rand) api.Id {
	if r.Intn(4) == 0 {
		return oddIds[r.Intn(len(oddIds))]
	}
	return api.Id{Origin: r.Intn(4), Seq: 1 + r.Intn(12)}
}

func TestAnyCalls(t *testing.T) {
	r := rand.New(rand.NewSource(14))
	for range 400 {
		b := begin(t, r.Intn(40)-3)
		often := 1 + r.Intn(12)
		for range 60 {
			if r.Intn(often) > 0 {
				b.add(anyEntry(r))
				continue
			}
			var l []api.Id
			for range r.Intn(20) {
				l = append(l, anyId(r))
			}
			if left := b.k.without(l); told(b.r.Without(l)) != left.told() {
				t.Fatalf("%s\nwithout %v", b.k.told(), l)
			}
			if r.Intn(3) > 0 {
				b.drop(l)
			}
			id := anyId(r)
			if has := b.r.Has(id); has != slices.Contains(b.k.ids, id) {
				t.Fatalf("%v: %v", id, has)
			}
		}
	}
}

// P14.3

func TestOrder(t *testing.T) {
	r := New(6)
	put := func(l ...int) {
		for _, seq := range l {
			if !r.Add(entry(seq, fmt.Sprint(seq))) {
				t.Fatalf("%d was refused", seq)
			}
		}
	}
	stand := func(l ...int) {
		t.Helper()
		var want []api.Entry
		for _, seq := range l {
			want = append(want, entry(seq, fmt.Sprint(seq)))
		}
		if all := r.All(); told(all) != told(want) {
			t.Fatalf("%s\nand not\n%s", told(all), told(want))
		}
	}
	put(5, 3, 9, 1)
	stand(5, 3, 9, 1)
	put(7, 2)
	stand(5, 3, 9, 1, 7, 2)
	r.Drop(seqs(9, 5))
	stand(3, 1, 7, 2)
	put(5)
	stand(3, 1, 7, 2, 5)
	r.Drop(seqs(2, 3))
	put(9, 3)
	stand(1, 7, 5, 9, 3)
	r.Drop(seqs(3))
	put(3)
	stand(1, 7, 5, 9, 3)
	r.Drop(seqs(1))
	put(1)
	stand(7, 5, 9, 3, 1)
	r.Drop(seqs(1, 3, 5, 7, 9))
	put(9, 1, 5)
	stand(9, 1, 5)
}

// Each entry is reckoned to stand by the number of the call that put it in.
func TestOrderOfPuts(t *testing.T) {
	r := rand.New(rand.NewSource(143))
	for range 300 {
		row, when := New(32), map[api.Id]int{}
		for call := range 150 {
			id := api.Id{Origin: r.Intn(3), Seq: r.Intn(16)}
			if r.Intn(3) > 0 {
				if row.Add(api.Entry{Id: id}) {
					when[id] = call
				}
				continue
			}
			row.Drop([]api.Id{id})
			delete(when, id)
			last := -1
			for _, e := range row.All() {
				at, is := when[e.Id]
				if !is || at <= last {
					t.Fatalf("%v of call %d stands behind that of %d", e.Id, at, last)
				}
				last = at
			}
			if row.Len() != len(when) {
				t.Fatal(row.Len(), len(when))
			}
		}
	}
}

// Rows that are none

func checkNoRow(t *testing.T, r *Row) {
	t.Helper()
	for range 2 {
		if r.Len() != 0 || r.Room() != 0 || len(r.All()) != 0 || len(r.Without(nil)) != 0 || len(r.Without(oddIds)) != 0 {
			t.Fatal(r.Len(), r.Room(), r.All())
		}
		if r.Drop(nil) != 0 || r.Drop(oddIds) != 0 || r.Has(api.Id{}) || r.Has(api.Id{Seq: 1}) {
			t.Fatal("something was dropped, or is there")
		}
		if r.Add(api.Entry{}) || r.Add(entry(1, "k")) || r.Has(api.Id{}) || r.Has(api.Id{Seq: 1}) {
			t.Fatal("something was put in")
		}
	}
}

func TestRowsThatAreNone(t *testing.T) {
	var plain Row
	checkNoRow(t, nil)
	checkNoRow(t, &plain)
	checkNoRow(t, new(Row))
	checkNoRow(t, &Row{})
}

// What is handed in and out

// roomy is a list with spare room behind it, and that room too.
func roomy[P any](l []P, spare P) (list, whole []P) {
	whole = append(slices.Clone(l), spare, spare, spare)
	return whole[:len(l)], whole
}

// withRoom is an entry whose lists have spare room, and a function that tells all of it, room and all.
func withRoom(e api.Entry) (api.Entry, func() string) {
	guards, allGuards := roomy(e.Op.Guards, api.Guard{Kind: 1, Key: "spare"})
	steps, allSteps := roomy(e.Op.Steps, api.Step{Kind: 2, Key: "spare"})
	e.Op = api.Op{Guards: guards, Steps: steps}
	return e, func() string { return fmt.Sprint(allGuards, allSteps) }
}

// spoil changes all that could be changed of entries, with the spare room of their lists.
func spoil(l []api.Entry) {
	for _, e := range l {
		guards, steps := e.Op.Guards[:cap(e.Op.Guards)], e.Op.Steps[:cap(e.Op.Steps)]
		for i := range guards {
			guards[i] = api.Guard{Kind: 9, Key: "spoilt"}
		}
		for i := range steps {
			steps[i] = api.Step{Kind: 9, Key: "spoilt"}
		}
	}
	whole := l[:cap(l)]
	for i := range whole {
		whole[i] = api.Entry{Id: api.Id{Origin: -9, Seq: -9}}
	}
}

func TestEntriesAreNotChangedAndNotKept(t *testing.T) {
	for _, o := range append(oddOps(), entry(0, "k").Op) {
		for _, most := range []int{0, 2} {
			b := begin(t, most)
			for _, id := range []api.Id{{Seq: 1}, {Seq: 1}, {Seq: 2}, {Seq: 3}} {
				e, all := withRoom(api.Entry{Id: id, Op: o})
				was := all()
				b.add(e)
				b.r.All()
				if all() != was {
					t.Fatalf("%s was %s", all(), was)
				}
				spoil([]api.Entry{e})
				check(t, b.r, b.k)
			}
		}
	}
}

func TestIdsAreNotChangedAndNotKept(t *testing.T) {
	for _, gone := range [][]int{{}, {9}, {1}, {4, 2}, {3, 3, 1, 9}, {4, 3, 2, 1}} {
		b := full(t, 4, 1)
		l, whole := roomy(seqs(gone...), api.Id{Origin: 7, Seq: 7})
		was := slices.Clone(whole)
		b.drop(l)
		if !slices.Equal(whole, was) {
			t.Fatalf("%v was %v", whole, was)
		}
		for i := range whole {
			whole[i] = api.Id{Seq: i + 1}
		}
		check(t, b.r, b.k)
		b.add(entry(9, "more"))
	}
}

// handed is each way to have entries handed out of a row of four.
func handed() []func(r *Row) []api.Entry {
	return []func(r *Row) []api.Entry{
		(*Row).All,
		func(r *Row) []api.Entry { return r.Without(nil) },
		func(r *Row) []api.Entry { return r.Without(seqs(2)) },
		func(r *Row) []api.Entry { return r.Without(seqs(4)) },
		func(r *Row) []api.Entry { return r.Without(seqs(1, 2, 3, 4)) },
	}
}

func TestWhatIsHandedOutIsNewMemory(t *testing.T) {
	for i, hand := range handed() {
		for j, other := range handed() {
			b := full(t, 4, 1)
			one, two := hand(b.r), other(b.r)
			was := told(two)
			_ = append(one, entry(8, "behind"))
			for _, e := range one {
				_ = append(e.Op.Guards, api.Guard{Key: "behind"})
				_ = append(e.Op.Steps, api.Step{Key: "behind"})
			}
			spoil(one)
			if told(two) != was {
				t.Fatalf("%d and %d share memory: %s", i, j, told(two))
			}
			check(t, b.r, b.k)
			b.add(entry(5, "more"))
			b.drop(seqs(1, 4))
			if told(two) != was {
				t.Fatalf("%d is %s behind calls", j, told(two))
			}
		}
	}
}

// Lists that were handed out stay as they were, whatever is put in and dropped.
func TestWhatWasHandedOutStays(t *testing.T) {
	r := rand.New(rand.NewSource(144))
	row := New(9)
	var lists [][]api.Entry
	var texts []string
	for range 500 {
		row.Add(anyEntry(r))
		lists = append(lists, row.All(), row.Without([]api.Id{anyId(r), anyId(r)}))
		for _, l := range lists[len(texts):] {
			texts = append(texts, told(l))
		}
		row.Drop([]api.Id{anyId(r)})
	}
	for i, l := range lists {
		if told(l) != texts[i] {
			t.Fatalf("%d is %s, and was %s", i, told(l), texts[i])
		}
	}
}

// No list of an answer is part of another one: each one's entries stay, whatever becomes of those ahead.
func TestListsOfOneAnswer(t *testing.T) {
	for _, hand := range handed() {
		b := full(t, 4, 0)
		l := hand(b.r)
		was := told(hand(b.r))
		for i := range l {
			_ = append(l[i].Op.Guards, api.Guard{Key: "behind"})
			_ = append(l[i].Op.Steps, api.Step{Key: "behind"})
		}
		if told(l) != was {
			t.Fatalf("%s was %s", told(l), was)
		}
		for i := range l {
			behind := told(l[i+1:])
			spoil(l[i : i+1 : i+1])
			if told(l[i+1:]) != behind {
				t.Fatalf("%s was %s", told(l[i+1:]), behind)
			}
		}
	}
}

func TestRoomIsCutOff(t *testing.T) {
	for _, o := range append(oddOps(), entry(0, "k").Op) {
		r := New(32)
		for i := range 32 {
			e, _ := withRoom(api.Entry{Id: api.Id{Seq: i}, Op: o})
			r.Add(e)
			for _, l := range [][]api.Entry{r.All(), r.Without(seqs(i)), r.Without(seqs(0, 1, 2, 3, 4))} {
				if cap(l) != len(l) {
					t.Fatalf("room for %d, of %d", cap(l), len(l))
				}
				for _, e := range l {
					if cap(e.Op.Guards) != len(o.Guards) || cap(e.Op.Steps) != len(o.Steps) {
						t.Fatalf("room for %d and %d, of %v", cap(e.Op.Guards), cap(e.Op.Steps), o)
					}
				}
			}
		}
	}
}

func TestRowsHaveNothingInCommon(t *testing.T) {
	e := entry(1, "k")
	one, two, three := full(t, 3, 1), full(t, 3, 1), begin(t, 4)
	for _, f := range one.r.All() {
		three.add(f)
	}
	one.drop(seqs(1, 3))
	e.Op.Steps[0].Key = "other"
	one.add(e)
	check(t, two.r, two.k)
	check(t, three.r, three.k)
	two.add(entry(4, "more"))
	three.drop(seqs(2))
	check(t, one.r, one.k)
	check(t, two.r, two.k)
}

// A row's texts are its own: they stay, whatever becomes of the memory in which they came.
func TestTextsAreNotKept(t *testing.T) {
	b := []byte("keyvalueold")
	key, value, old := unsafe.String(&b[0], 3), unsafe.String(&b[3], 5), unsafe.String(&b[8], 3)
	r := New(1)
	r.Add(api.Entry{Op: api.Op{Guards: []api.Guard{{Key: key, Value: value}}, Steps: []api.Step{{Key: key, Value: value, Old: old}}}})
	was := told(r.All())
	for i := range b {
		b[i] = '-'
	}
	if is := told(r.All()); is != was || !strings.Contains(is, `guard 0 "key" "value" step 0 "key" "value" "old" 0`) {
		t.Fatalf("%s was %s", is, was)
	}
}

// What is told of one call, and of the next, is the same.
func TestAskingChangesNothing(t *testing.T) {
	b := full(t, 5, 2)
	for range 3 {
		b.r.All()
		b.r.Without(seqs(1, 3))
		b.r.Without(seqs(1, 2, 3, 4, 5))
		b.r.Has(api.Id{Seq: 1})
		b.r.Has(api.Id{Seq: 9})
		b.r.Len()
		b.r.Room()
		check(t, b.r, b.k)
	}
	b.add(entry(6, "more"))
	b.add(entry(7, "more"))
	b.add(entry(8, "more"))
}

// What the README tells of this layer.
func TestReadme(t *testing.T) {
	r := New(2)
	a, b, c := entry(1, "a"), entry(2, "b"), entry(3, "c")
	if !r.Add(a) || !r.Add(b) || r.Add(c) || r.Room() != 0 {
		t.Fatal(told(r.All()))
	}
	if left := r.Without(seqs(1)); told(left) != told([]api.Entry{b}) || r.Len() != 2 {
		t.Fatal(told(left))
	}
	if n := r.Drop(seqs(1)); n != 1 || r.Has(a.Id) || r.Room() != 1 || !r.Add(a) || told(r.All()) != told([]api.Entry{b, a}) {
		t.Fatal(n, told(r.All()))
	}
}
