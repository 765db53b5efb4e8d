package act

import (
	"fmt"
	"math"
	"math/big"
	"math/rand"
	"reflect"
	"slices"
	"strings"
	"testing"

	"philtre/api"
	"philtre/heap"
)

// field is one of an act's, beside Kind.
type field int

const (
	block field = iota
	cell
	old
	new_
	text
)

var allFields = []field{block, cell, old, new_, text}

// kind is what the chapter says of acts of a kind.
type kind struct {
	number int
	word   string
	fields []field // in the order in which a text has them
	looks  bool
}

var kinds = []kind{
	{0, "none", nil, false},
	{1, "load", []field{block, cell}, true},
	{2, "store", []field{block, cell, new_}, false},
	{3, "swap", []field{block, cell, old, new_}, false},
	{4, "bump", []field{block, cell, new_}, false},
	{5, "make", []field{cell, text}, false},
	{6, "words", []field{block}, true},
	{7, "drop", []field{block}, false},
	{8, "lock", nil, false},
	{9, "unlock", nil, false},
	{10, "await", []field{block, cell}, true},
}

// wrongKinds are kinds that are none.
var wrongKinds = []int{math.MinInt, math.MinInt + 1, -1 << 32, -1<<32 + 1, -256, -255, -10, -2, -1, 11, 12, 16, 255, 256, 257, 264, 1<<16 + 8, 1 << 31, 1 << 32, 1<<32 + 1, 1<<32 + 10, math.MaxInt - 1, math.MaxInt}

// kindOf is what the chapter says of a kind; false, if it is none.
func kindOf(number int) (kind, bool) {
	for _, k := range kinds {
		if k.number == number {
			return k, true
		}
	}
	return kind{}, false
}

// zero says whether an act's field is zero.
func zero(x api.Act, f field) bool {
	return [...]bool{block: x.Block == 0, cell: x.Cell == 0, old: x.Old == 0, new_: x.New == 0, text: x.Text == ""}[f]
}

// mayBe says whether an act may be, as it is reckoned here.
func mayBe(x api.Act) bool {
	k, is := kindOf(x.Kind)
	if !is || x.Cell < 0 || len(x.Text) > 4096 {
		return false
	}
	for _, f := range allFields {
		if !zero(x, f) && !slices.Contains(k.fields, f) {
			return false
		}
	}
	return true
}

// line is the text of an act that may be, as it is reckoned here.
func line(x api.Act) string {
	k, _ := kindOf(x.Kind)
	var b strings.Builder
	b.WriteString(k.word)
	for _, f := range k.fields {
		b.WriteByte(' ')
		switch f {
		case block:
			b.WriteString(new(big.Int).SetUint64(x.Block).String())
		case cell:
			b.WriteString(big.NewInt(int64(x.Cell)).String())
		case old:
			b.WriteString(new(big.Int).SetUint64(x.Old).String())
		case new_:
			b.WriteString(new(big.Int).SetUint64(x.New).String())
		case text:
			b.WriteString(word(x.Text))
		}
	}
	return b.String()
}

// word is the word of a text, as it is reckoned here.
func word(s string) string {
	if s == "" {
		return "-"
	}
	w := ""
	for i := range len(s) {
		if strings.IndexByte("abcdefghijklmnopqrstuvwxyzABCDEFGHIJKLMNOPQRSTUVWXYZ0123456789.:/_", s[i]) >= 0 {
			w += s[i : i+1]
		} else {
			w += fmt.Sprintf("%%%02x", s[i])
		}
	}
	return w
}

// ledger is a heap as it is reckoned here: a row for each number that was given, in their order, whether its block is there or not.
type ledger struct {
	rows   []row
	taken  bool
	faults int
}

// row is a block, and whether it was dropped.
type row struct {
	cells []uint64
	text  string
	gone  bool
}

func (k *ledger) copy() *ledger {
	own := &ledger{taken: k.taken, faults: k.faults}
	for _, r := range k.rows {
		own.rows = append(own.rows, row{slices.Clone(r.cells), r.text, r.gone})
	}
	return own
}

// row is the row of a block that is there; nil of all other numbers.
func (k *ledger) row(b uint64) *row {
	for i := range k.rows {
		if uint64(i)+1 == b && !k.rows[i].gone {
			return &k.rows[i]
		}
	}
	return nil
}

// do does an act, and tells what it is answered.
func (k *ledger) do(x api.Act) api.Got {
	if !mayBe(x) || x.Kind == 0 {
		return api.Got{}
	}
	switch x.Kind {
	case 5:
		if x.Cell > 256 {
			return api.Got{}
		}
		k.rows = append(k.rows, row{cells: make([]uint64, x.Cell), text: x.Text})
		return api.Got{Word: uint64(len(k.rows))}
	case 8:
		if k.taken {
			return api.Got{}
		}
		k.taken = true
		return api.Got{Word: 1}
	case 9:
		if !k.taken {
			k.faults++
		}
		k.taken = false
		return api.Got{}
	}
	r := k.row(x.Block)
	kd, _ := kindOf(x.Kind)
	if r == nil || slices.Contains(kd.fields, cell) && x.Cell >= len(r.cells) {
		k.faults++
		return api.Got{}
	}
	return r.do(x)
}

// do does an act of a block, and of its cell, that are there.
func (r *row) do(x api.Act) api.Got {
	if x.Kind == 6 {
		return api.Got{Text: r.text}
	}
	if x.Kind == 7 {
		r.gone = true
		return api.Got{}
	}
	was := r.cells[x.Cell]
	if x.Kind == 2 || x.Kind == 3 && x.Old == was {
		r.cells[x.Cell] = x.New
	}
	if x.Kind == 4 {
		sum := new(big.Int).Add(new(big.Int).SetUint64(was), new(big.Int).SetUint64(x.New))
		r.cells[x.Cell] = sum.Mod(sum, new(big.Int).Lsh(big.NewInt(1), 64)).Uint64()
	}
	if x.Kind == 2 {
		return api.Got{}
	}
	return api.Got{Word: was}
}

// ready says whether an act is ready.
func (k *ledger) ready(x api.Act) bool {
	if !mayBe(x) {
		return true
	}
	switch x.Kind {
	case 8:
		return !k.taken
	case 10:
		r := k.row(x.Block)
		return r != nil && x.Cell < len(r.cells) && r.cells[x.Cell] != 0
	}
	return true
}

// sight is all that a heap tells of itself.
type sight struct {
	locked bool
	faults int
	next   uint64     // the number that would be given next
	codes  []api.Code // of the numbers from 0 to beyond next
	blocks []whole
}

// whole is all that a heap tells of a block.
type whole struct {
	b     uint64
	text  string
	size  int
	cells []uint64
}

// look is all that a heap tells, without a fault.
func look(h *heap.Heap) sight {
	s := sight{locked: h.Locked(), faults: h.Faults()}
	for _, b := range h.Blocks() {
		w := whole{b: b, size: h.Size(b)}
		w.text, _ = h.Words(b)
		for i := range w.size {
			n, _ := h.Load(b, i)
			w.cells = append(w.cells, n)
		}
		s.blocks = append(s.blocks, w)
	}
	// Copies are asked for what would be a change, or a fault.
	s.next = h.Copy().Make(0, "")
	c := h.Copy()
	for b := range s.next + 3 {
		_, code := c.Words(b)
		s.codes = append(s.codes, code)
	}
	return s
}

// look is what a heap that is as the ledger tells.
func (k *ledger) look() sight {
	s := sight{locked: k.taken, faults: k.faults, next: uint64(len(k.rows)) + 1, codes: []api.Code{16}}
	for i, r := range k.rows {
		if r.gone {
			s.codes = append(s.codes, 17)
			continue
		}
		s.codes = append(s.codes, 0)
		w := whole{b: uint64(i) + 1, text: r.text, size: len(r.cells)}
		for _, n := range r.cells {
			w.cells = append(w.cells, n)
		}
		s.blocks = append(s.blocks, w)
	}
	s.codes = append(s.codes, 16, 16, 16)
	return s
}

// both is a heap and its ledger, side by side.
type both struct {
	t *testing.T
	h *heap.Heap
	k *ledger
}

// begin is a heap on which these acts were done, none of them wrongly.
func begin(t *testing.T, acts ...api.Act) both {
	t.Helper()
	x := both{t, heap.New(), &ledger{}}
	for _, a := range acts {
		x.do(a)
	}
	return x
}

func (x both) copy() both {
	return both{x.t, x.h.Copy(), x.k.copy()}
}

// do does an act on both, and holds them against each other.
func (x both) do(a api.Act) api.Got {
	x.t.Helper()
	got := x.quick(a)
	x.check(a)
	return got
}

// quick does an act on both, and holds what they tell against each other.
func (x both) quick(a api.Act) api.Got {
	x.t.Helper()
	got, want := Do(x.h, a), x.k.do(a)
	if got != want {
		x.t.Fatalf("%+v: %+v, and not %+v, of %+v", a, got, want, x.k)
	}
	return got
}

// ready asks both whether an act is ready, and holds them against each other.
func (x both) ready(a api.Act) bool {
	x.t.Helper()
	got := Ready(x.h, a)
	if got != x.k.ready(a) {
		x.t.Fatalf("%+v: ready %v, of %+v", a, got, x.k)
	}
	x.check(a)
	return got
}

func (x both) check(a api.Act) {
	x.t.Helper()
	if got, want := look(x.h), x.k.look(); !reflect.DeepEqual(got, want) {
		x.t.Fatalf("behind %+v: %+v, and not %+v", a, got, want)
	}
}

// turned is what differs between two sights: each cell, block and lock by a word; faults apart.
func turned(a, b sight) []string {
	var l []string
	if a.locked != b.locked {
		l = append(l, "lock")
	}
	old := map[uint64]whole{}
	for _, w := range a.blocks {
		old[w.b] = w
	}
	for _, w := range b.blocks {
		was, is := old[w.b]
		delete(old, w.b)
		if !is {
			l = append(l, fmt.Sprint("made ", w.b))
			continue
		}
		if was.text != w.text || was.size != w.size {
			l = append(l, fmt.Sprint("other ", w.b))
			continue
		}
		for i := range w.cells {
			if was.cells[i] != w.cells[i] {
				l = append(l, fmt.Sprint("cell ", w.b, " ", i))
			}
		}
	}
	for b := range old {
		l = append(l, fmt.Sprint("dropped ", b))
	}
	if a.next != b.next && !slices.Contains(l, fmt.Sprint("made ", a.next)) {
		l = append(l, "number")
	}
	slices.Sort(l)
	return l
}

func pick[T any](r *rand.Rand, l []T) T { return l[r.Intn(len(l))] }

// anyAct is an act put together by chance: mostly one that may be, and of what is there about as often as not.
func anyAct(r *rand.Rand, given int) api.Act {
	x := api.Act{Kind: r.Intn(11)}
	if r.Intn(30) == 0 {
		x.Kind = pick(r, wrongKinds)
	}
	k, _ := kindOf(x.Kind)
	for _, f := range allFields {
		if !slices.Contains(k.fields, f) && r.Intn(60) > 0 {
			continue
		}
		switch f {
		case block:
			x.Block = uint64(r.Intn(given + 3))
			if r.Intn(30) == 0 {
				x.Block = pick(r, edgeWords)
			}
		case cell:
			x.Cell = r.Intn(5)
			if r.Intn(20) == 0 {
				x.Cell = pick(r, edgeCells)
			}
		case old:
			x.Old = pick(r, fewWords)
		case new_:
			x.New = pick(r, fewWords)
		case text:
			x.Text = pick(r, someTexts)
		}
	}
	return x
}
