package batch

import (
	"encoding/binary"
	"errors"
	"fmt"
	"math"
	"math/rand"
	"slices"
	"strings"
	"testing"
	"unsafe"

	"philtre/api"
	"philtre/fail"
	"philtre/opcode"
	"philtre/step"
)

// num is the bytes of a number, as another package reckons them.
func num(n uint64) string {
	return string(binary.AppendUvarint(nil, n))
}

// overlong are numbers' bytes that have one more than they need; beyond are those of more than 64 digits.
var (
	overlong = []string{"\x80\x00", "\x81\x00", "\x90\x00", "\xff\x00", "\x80\x80\x00", "\xff\x81\x00", "\x80\x80\x80\x80\x90\x00", "\xff\xff\xff\xff\xff\xff\xff\xff\xff\x00"}
	beyond   = []string{strings.Repeat("\x80", 9) + "\x02", strings.Repeat("\xff", 9) + "\x7f", strings.Repeat("\x80", 10), strings.Repeat("\xff", 11) + "\x00"}
)

// great are numbers that leave int, or would be another number in fewer digits.
var great = []uint64{1<<32 + 1, 1<<32 + 2, 1<<33 - 1, 1 << 33, 1 << 40, 1<<40 + 1, math.MaxInt64, 1 << 63, 1<<63 + 1, 1<<63 + 5, math.MaxUint64 - 15, math.MaxUint64}

// rightIds may be, each once; wrongIds may not.
var (
	rightIds = []api.Id{{Origin: 0, Seq: 1}, {Origin: 0, Seq: 2}, {Origin: 1, Seq: 1}, {Origin: 1, Seq: 2}, {Origin: 2, Seq: 1}, {Origin: 255, Seq: 1}, {Origin: 0, Seq: 127}, {Origin: 127, Seq: 128}, {Origin: 128, Seq: 127}, {Origin: 0, Seq: 255}, {Origin: 0, Seq: 256}, {Origin: 3, Seq: 1 << 31}, {Origin: 0, Seq: 4294967295}, {Origin: 0, Seq: 4294967296}, {Origin: 254, Seq: 4294967296}, {Origin: 255, Seq: 4294967296}}
	wrongIds = []api.Id{{}, {Origin: -1, Seq: 1}, {Origin: 256, Seq: 1}, {Origin: 7, Seq: 0}, {Origin: 7, Seq: -1}, {Origin: 255, Seq: 0}, {Origin: 0, Seq: 4294967297}, {Origin: 255, Seq: 4294967297}, {Origin: 512, Seq: 9}, {Origin: 1 << 32, Seq: 9}, {Origin: 9, Seq: 1 << 33}, {Origin: math.MinInt, Seq: 9}, {Origin: math.MaxInt, Seq: 9}, {Origin: 9, Seq: math.MinInt}, {Origin: 9, Seq: math.MaxInt}, {Origin: math.MinInt, Seq: math.MinInt}, {Origin: math.MaxInt, Seq: math.MaxInt}}
)

// rowOfOp is an operation, and its bytes written out.
type rowOfOp struct {
	o api.Op
	s string
}

func rightOps() []rowOfOp {
	key, value := strings.Repeat("k\x80", 8), strings.Repeat("v\xff", 16)
	long := api.Step{Kind: api.Cas, Key: key, Old: value, Value: value}
	return []rowOfOp{
		{api.Op{Steps: []api.Step{{Kind: api.Put, Key: "k", Value: "a"}}}, "\x00\x01\x01\x01k\x01a"},
		{api.Op{Steps: []api.Step{{Kind: api.Delete}}}, "\x00\x01\x02\x00"},
		{api.Op{Steps: []api.Step{{Kind: api.Add, Key: "n", N: -300}}}, "\x00\x01\x03\x01n\xd7\x04"},
		{api.Op{Steps: []api.Step{{Kind: api.Add, Key: "n", N: math.MinInt64}}}, "\x00\x01\x03\x01n" + strings.Repeat("\xff", 9) + "\x01"},
		{api.Op{Guards: []api.Guard{{Kind: api.Has, Key: "h"}, {Kind: api.Lacks}, {Kind: api.Equals, Key: "e", Value: "\x00"}}, Steps: []api.Step{{Kind: api.Cas, Key: "c", Old: "o", Value: ""}, {Kind: api.Delete, Key: "d"}}}, "\x03\x01\x01h\x02\x00\x03\x01e\x01\x00\x02\x04\x01c\x01o\x00\x02\x01d"},
		{api.Op{Guards: slices.Repeat([]api.Guard{{Kind: api.Equals, Key: key, Value: value}}, 4), Steps: slices.Repeat([]api.Step{long}, 4)}, "\x04" + strings.Repeat("\x03\x10"+key+"\x20"+value, 4) + "\x04" + strings.Repeat("\x04\x10"+key+"\x20"+value+"\x20"+value, 4)},
	}
}

func wrongOps() []api.Op {
	step := []api.Step{{Kind: api.Delete, Key: "d"}}
	ofStep := func(s api.Step) api.Op { return api.Op{Steps: []api.Step{s}} }
	ofGuard := func(g api.Guard) api.Op { return api.Op{Guards: []api.Guard{g}, Steps: step} }
	return []api.Op{
		{}, {Guards: []api.Guard{{Kind: api.Has}}}, {Steps: slices.Repeat(step, 5)}, {Guards: slices.Repeat([]api.Guard{{Kind: api.Has}}, 5), Steps: step},
		ofGuard(api.Guard{}), ofGuard(api.Guard{Kind: 4}), ofGuard(api.Guard{Kind: api.Has, Value: "v"}), ofGuard(api.Guard{Kind: api.Lacks, Key: strings.Repeat("k", 17)}), ofGuard(api.Guard{Kind: api.Equals, Value: strings.Repeat("v", 33)}),
		ofStep(api.Step{}), ofStep(api.Step{Kind: 5}), ofStep(api.Step{Kind: -1}), ofStep(api.Step{Kind: api.Put, N: 1}), ofStep(api.Step{Kind: api.Delete, Value: "v"}), ofStep(api.Step{Kind: api.Add, Old: "o"}), ofStep(api.Step{Kind: api.Cas, Key: strings.Repeat("k", 17)}), ofStep(api.Step{Kind: api.Put, Value: strings.Repeat("v", 33)}),
		{Steps: []api.Step{{Kind: api.Delete}, {Kind: api.Delete}, {Kind: api.Delete}, {Kind: api.Delete, N: 7}}},
	}
}

func deleteOp(key string) api.Op {
	return api.Op{Steps: []api.Step{{Kind: api.Delete, Key: key}}}
}

func pick[T any](r *rand.Rand, l []T) T { return l[r.Intn(len(l))] }

// someRow is one of that many entries that may be, but for its length, at places that r chooses.
func someRow(r *rand.Rand, length int) []api.Entry {
	var l []api.Entry
	used := map[api.Id]bool{}
	ops := rightOps()
	for len(l) < length {
		id := pick(r, rightIds)
		if r.Intn(2) == 0 {
			id = api.Id{Origin: r.Intn(256), Seq: 1 + int(r.Uint32())>>r.Intn(32)}
		}
		if !used[id] {
			l = append(l, api.Entry{Id: id, Op: pick(r, ops).o})
		}
		used[id] = true
	}
	return l
}

// aRow is one of that many entries whose names share their Origin, and then their Seq.
func aRow(length int) []api.Entry {
	l := make([]api.Entry, length)
	ops := rightOps()
	for i := range l {
		l[i] = api.Entry{Id: api.Id{Origin: i % 2, Seq: 1 + i/2}, Op: ops[i%len(ops)].o}
	}
	return l
}

// someRows are of each length that may be.
func someRows(seed int64, ofEach int) [][]api.Entry {
	r := rand.New(rand.NewSource(seed))
	var l [][]api.Entry
	for length := range 17 {
		l = append(l, aRow(length))
		for range ofEach {
			l = append(l, someRow(r, length))
		}
	}
	return l
}

// ends are the first place of a row, the last, and one or more in its midst.
func ends(length int) []int {
	l := []int{0, length / 2, length / 3, length - 1}
	slices.Sort(l)
	return slices.Compact(l)
}

// clone shares nothing with l that could be changed.
func clone(l []api.Entry) []api.Entry {
	other := slices.Clone(l)
	for i, e := range l {
		other[i].Op = api.Op{Guards: slices.Clone(e.Op.Guards), Steps: slices.Clone(e.Op.Steps)}
	}
	return other
}

// told is a row as a text: of two rows the same one just where they have the same entries.
func told(l []api.Entry) string {
	var b strings.Builder
	for _, e := range l {
		fmt.Fprintf(&b, "%d.%d", e.Id.Origin, e.Id.Seq)
		for _, g := range e.Op.Guards {
			fmt.Fprintf(&b, " guard %d %q %q", g.Kind, g.Key, g.Value)
		}
		for _, s := range e.Op.Steps {
			fmt.Fprintf(&b, " step %d %q %q %q %d", s.Kind, s.Key, s.Value, s.Old, s.N)
		}
		b.WriteString("\n")
	}
	return b.String()
}

// item is a number or an operation of a batch's bytes; its entry is -1, if it is of none.
type item struct {
	what, entry int
	s           string
}

// What stands in a batch's bytes.
const (
	count = iota
	origin
	seq
	operation
)

// items are a batch's bytes, one thing after another.
func items(l []api.Entry) []item {
	all := []item{{count, -1, num(uint64(len(l)))}}
	for i, e := range l {
		op, err := opcode.Print(e.Op)
		if err != nil {
			panic(err)
		}
		all = append(all, item{origin, i, num(uint64(e.Id.Origin))}, item{seq, i, num(uint64(e.Id.Seq))}, item{operation, i, op})
	}
	return all
}

func join(l []item) string {
	var b strings.Builder
	for _, i := range l {
		b.WriteString(i.s)
	}
	return b.String()
}

// bytesOf are the bytes of a batch.
func bytesOf(l []api.Entry) string { return join(items(l)) }

// wrong is an error that the test's own reading tells.
type wrong struct {
	code   api.Code
	places []int
}

// shifted is what is wrong with the operation whose bytes s begins with, as told of a text in which s begins at the place at.
func shifted(s string, at int) (api.Op, int, wrong) {
	o, next, err := opcode.Take(s, 0)
	if err == nil {
		return o, at + next, wrong{}
	}
	places := fail.Places(err)
	places[len(places)-1] += at
	return api.Op{}, 0, wrong{fail.Code(err), places}
}

// reckoner reads as the package is to read, by other means: what is wrong is thrown.
type reckoner struct {
	s         string
	at, entry int
}

func (k *reckoner) throw(code api.Code, places ...int) {
	if k.entry >= 0 {
		places = slices.Insert(slices.Clone(places), 0, k.entry)
	}
	panic(wrong{code, places})
}

func (k *reckoner) number(least, most uint64, code api.Code) int {
	next := k.s[k.at:min(len(k.s), k.at+10)]
	last := slices.IndexFunc([]byte(next), func(c byte) bool { return c < 128 })
	switch {
	case last < 0 && len(next) < 10:
		k.throw(api.Short, k.at)
	case last < 0 || last == 9 && next[9] > 1:
		k.throw(api.Long, k.at)
	case last > 0 && next[last] == 0:
		k.throw(api.Form, k.at)
	}
	n, _ := binary.Uvarint([]byte(next))
	if n < least || n > most {
		k.throw(code, k.at)
	}
	k.at += last + 1
	return int(n)
}

// reckon is what Parse is to answer.
func reckon(s string) (l []api.Entry, w wrong) {
	defer func() {
		if thrown := recover(); thrown != nil {
			l, w = nil, thrown.(wrong)
		}
	}()
	k := &reckoner{s, 0, -1}
	many := k.number(0, 16, api.Long)
	first := map[api.Id]bool{}
	for k.entry = 0; k.entry < many; k.entry++ {
		from := k.at
		id := api.Id{Origin: k.number(0, 255, api.Range)}
		id.Seq = k.number(1, 4294967296, api.Range)
		if first[id] {
			k.throw(api.Twice, from)
		}
		first[id] = true
		o, next, w := shifted(s[k.at:], k.at)
		if w.code != api.OK {
			k.throw(w.code, w.places...)
		}
		k.at = next
		l = append(l, api.Entry{Id: id, Op: o})
	}
	k.entry = -1
	if k.at < len(s) {
		k.throw(api.Long, k.at)
	}
	return l, wrong{}
}

func checkParsed(t *testing.T, s string, want []api.Entry) {
	t.Helper()
	l, err := Parse(s)
	if err != nil || told(l) != told(want) {
		t.Fatalf("%q: %s, %q, not %s", s, told(l), fail.Text(err), told(want))
	}
}

func checkError(t *testing.T, s string, code api.Code, places ...int) {
	t.Helper()
	l, err := Parse(s)
	if err == nil || fail.Code(err) != code || !errors.Is(err, fail.New(code)) || !slices.Equal(fail.Places(err), places) {
		t.Fatalf("%q: %q, not code %d at %v", s, fail.Text(err), code, places)
	}
	if len(l) > 0 {
		t.Fatalf("%q: %s beside an error", s, told(l))
	}
}

// checkReckoned holds Parse against the test's own reading, and tells whether there is a batch.
func checkReckoned(t *testing.T, s string) bool {
	t.Helper()
	l, w := reckon(s)
	if w.code != api.OK {
		checkError(t, s, w.code, w.places...)
		return false
	}
	checkParsed(t, s, l)
	return true
}

func checkPrinted(t *testing.T, l []api.Entry, want string) {
	t.Helper()
	s, err := Print(l)
	if err != nil || s != want {
		t.Fatalf("%s: %q, %q, not %q", told(l), s, fail.Text(err), want)
	}
	if !Right(l) {
		t.Fatalf("%s may not be", told(l))
	}
}

func checkBad(t *testing.T, l []api.Entry) {
	t.Helper()
	s, err := Print(l)
	if s != "" || err != api.ErrBadBatch || len(fail.Places(err)) > 0 {
		t.Fatalf("%s: %q, %v", told(l), s, err)
	}
	if Right(l) {
		t.Fatalf("%s may be", told(l))
	}
}

// P13.1

// The chapter's own example.
func TestExample(t *testing.T) {
	checkPrinted(t, nil, string([]byte{0}))
	checkPrinted(t, []api.Entry{}, string([]byte{0}))
	checkParsed(t, "\x00", nil)
	checkError(t, "", api.Short, 0)
}

type row struct {
	l []api.Entry
	s string
}

// rows are batches, and their bytes written out.
func rows() []row {
	ops := rightOps()
	l := []row{
		{nil, "\x00"},
		{[]api.Entry{{Id: api.Id{Origin: 0, Seq: 1}, Op: ops[0].o}}, "\x01\x00\x01\x00\x01\x01\x01k\x01a"},
		{[]api.Entry{{Id: api.Id{Origin: 255, Seq: 4294967296}, Op: ops[1].o}}, "\x01\xff\x01\x80\x80\x80\x80\x10\x00\x01\x02\x00"},
		{[]api.Entry{{Id: api.Id{Origin: 127, Seq: 128}, Op: ops[1].o}, {Id: api.Id{Origin: 128, Seq: 127}, Op: ops[1].o}}, "\x02\x7f\x80\x01\x00\x01\x02\x00\x80\x01\x7f\x00\x01\x02\x00"},
		{[]api.Entry{{Id: api.Id{Origin: 0, Seq: 2}, Op: ops[2].o}, {Id: api.Id{Origin: 0, Seq: 1}, Op: ops[4].o}, {Id: api.Id{Origin: 3, Seq: 300}, Op: ops[0].o}}, "\x03\x00\x02\x00\x01\x03\x01n\xd7\x04\x00\x01" + ops[4].s + "\x03\xac\x02\x00\x01\x01\x01k\x01a"},
	}
	whole := row{nil, "\x10"}
	for i := range 16 {
		whole.l = append(whole.l, api.Entry{Id: api.Id{Origin: 16 - i, Seq: 1 + i}, Op: ops[5].o})
		whole.s += string([]byte{byte(16 - i), byte(1 + i)}) + ops[5].s
	}
	return append(l, whole)
}

func TestPrint(t *testing.T) {
	for _, x := range rows() {
		checkPrinted(t, x.l, x.s)
	}
	for _, l := range someRows(1, 200) {
		checkPrinted(t, l, bytesOf(l))
	}
}

// An operation's bytes are those written out, and may stand with any name.
func TestPrintOfEachNameAndOperation(t *testing.T) {
	for _, id := range rightIds {
		for _, x := range rightOps() {
			checkPrinted(t, []api.Entry{{Id: id, Op: x.o}}, "\x01"+num(uint64(id.Origin))+num(uint64(id.Seq))+x.s)
		}
	}
	for n := range 256 {
		checkPrinted(t, []api.Entry{{Id: api.Id{Origin: n, Seq: 9}, Op: deleteOp("d")}}, "\x01"+num(uint64(n))+"\x09\x00\x01\x02\x01d")
	}
	for i := range 33 {
		for _, n := range []int{1<<i - 1, 1 << i, 1<<i + 1} {
			l := []api.Entry{{Id: api.Id{Origin: 9, Seq: n}, Op: deleteOp("d")}}
			if n == 0 || n > 4294967296 {
				checkBad(t, l)
			} else {
				checkPrinted(t, l, "\x01\x09"+num(uint64(n))+"\x00\x01\x02\x01d")
			}
		}
	}
}

func TestRightOfEachLength(t *testing.T) {
	for _, length := range []int{0, 1, 2, 15, 16, 17, 18, 31, 32, 127, 128, 255, 256, 257, 272, 65536, 65552} {
		l := aRow(length)
		if length <= 16 {
			checkPrinted(t, l, bytesOf(l))
		} else {
			checkBad(t, l)
		}
	}
}

func TestRightOfWrongNames(t *testing.T) {
	for _, id := range wrongIds {
		for _, length := range []int{1, 2, 3, 15, 16, 17} {
			for _, at := range ends(length) {
				l := aRow(length)
				l[at].Id = id
				checkBad(t, l)
			}
		}
	}
}

func TestRightOfWrongOperations(t *testing.T) {
	for _, o := range wrongOps() {
		for _, length := range []int{1, 2, 3, 15, 16, 17} {
			for _, at := range ends(length) {
				l := aRow(length)
				l[at].Op = o
				checkBad(t, l)
			}
		}
	}
}

// Each two entries of a row have the same name, with the same operation and with another one.
func TestRightOfNamesThatComeTwice(t *testing.T) {
	for length := 2; length <= 16; length++ {
		for i := range length {
			for j := range i {
				l := aRow(length)
				l[i].Id = l[j].Id
				checkBad(t, l)
				l[i].Op = l[j].Op
				checkBad(t, l)
			}
		}
	}
}

func TestRightOfNamesThatShareOneNumber(t *testing.T) {
	checkRight := func(ids []api.Id) {
		t.Helper()
		var l []api.Entry
		for _, id := range ids {
			l = append(l, api.Entry{Id: id, Op: deleteOp("d")})
		}
		checkPrinted(t, l, bytesOf(l))
	}
	for _, shared := range []int{1, 2, 255} {
		var byOrigin, bySeq []api.Id
		for i := range 16 {
			byOrigin = append(byOrigin, api.Id{Origin: shared, Seq: 1 + i*17})
			bySeq = append(bySeq, api.Id{Origin: i * 17, Seq: shared})
		}
		checkRight(byOrigin)
		checkRight(bySeq)
	}
	var mirrored []api.Id
	for i := range 8 {
		mirrored = append(mirrored, api.Id{Origin: 10 + i, Seq: 200 + i}, api.Id{Origin: 200 + i, Seq: 10 + i})
	}
	checkRight(mirrored)
}

// reckonRight says whether a row may be a batch, by other means.
func reckonRight(l []api.Entry) bool {
	names := map[string]bool{}
	for _, e := range l {
		right := e.Id.Origin >= 0 && e.Id.Origin < 256 && e.Id.Seq > 0 && uint64(e.Id.Seq-1)>>32 == 0
		if _, err := opcode.Print(e.Op); err != nil || !right {
			return false
		}
		names[fmt.Sprint(e.Id)] = true
	}
	return len(names) == len(l) && len(l) < 17
}

// allOfFew are all rows of up to three of some entries, of which each wrong one is so in one way.
func allOfFew() [][]api.Entry {
	d, p := deleteOp("d"), rightOps()[0].o
	some := []api.Entry{
		{Id: api.Id{Origin: 0, Seq: 1}, Op: d}, {Id: api.Id{Origin: 0, Seq: 1}, Op: p}, {Id: api.Id{Origin: 0, Seq: 2}, Op: d}, {Id: api.Id{Origin: 1, Seq: 1}, Op: d}, {Id: api.Id{Origin: 1, Seq: 2}, Op: p},
		{Id: api.Id{Origin: 256, Seq: 1}, Op: d}, {Id: api.Id{Origin: 1, Seq: 0}, Op: d}, {Id: api.Id{Origin: 2, Seq: 1}},
	}
	l := [][]api.Entry{nil}
	from := 0
	for range 3 {
		to := len(l)
		for _, ahead := range l[from:to] {
			for _, e := range some {
				l = append(l, append(slices.Clone(ahead), e))
			}
		}
		from = to
	}
	return l
}

func TestRightOfFew(t *testing.T) {
	right := 0
	for _, l := range allOfFew() {
		if !reckonRight(l) {
			checkBad(t, l)
			continue
		}
		checkPrinted(t, l, bytesOf(l))
		right++
	}
	if right < 20 {
		t.Errorf("%d may be: too few", right)
	}
}

func TestIds(t *testing.T) {
	if l := Ids(nil); len(l) != 0 {
		t.Errorf("%v of no row", l)
	}
	if l := Ids([]api.Entry{}); len(l) != 0 {
		t.Errorf("%v of an empty row", l)
	}
	all := slices.Concat(rightIds, wrongIds, rightIds[3:5], wrongIds[1:2])
	ops := append(wrongOps(), deleteOp("d"))
	for from := range all {
		for to := from; to <= len(all); to++ {
			var l []api.Entry
			for i, id := range all[from:to] {
				l = append(l, api.Entry{Id: id, Op: ops[i%len(ops)]})
			}
			if ids := Ids(l); !slices.Equal(ids, all[from:to]) {
				t.Fatalf("%v, not %v", ids, all[from:to])
			}
		}
	}
	for _, length := range []int{16, 17, 256, 65536} {
		ids := Ids(aRow(length))
		for i := range length {
			if len(ids) != length || ids[i] != (api.Id{Origin: i % 2, Seq: 1 + i/2}) {
				t.Fatalf("%d names of %d; %v at %d", len(ids), length, ids[i], i)
			}
		}
	}
}

// unlike are entries of which no two are the same; all but the first are that one but for a single part.
func unlike() []api.Entry {
	first := func() api.Entry {
		return clone([]api.Entry{{Id: api.Id{Origin: 3, Seq: 4}, Op: api.Op{
			Guards: []api.Guard{{Kind: api.Equals, Key: "g", Value: "v"}, {Kind: api.Has, Key: "h"}},
			Steps:  []api.Step{{Kind: api.Cas, Key: "s", Value: "v", Old: "o"}, {Kind: api.Add, Key: "n", N: 5}},
		}}})[0]
	}
	l := []api.Entry{first()}
	for _, change := range []func(e *api.Entry){
		func(e *api.Entry) { e.Id.Origin = 4 },
		func(e *api.Entry) { e.Id.Seq = 3 },
		func(e *api.Entry) { e.Id = api.Id{Origin: 4, Seq: 3} },
		func(e *api.Entry) { e.Id.Origin = -3 },
		func(e *api.Entry) { e.Id.Seq += 1 << 32 },
		func(e *api.Entry) { e.Op.Guards[0].Kind = api.Has },
		func(e *api.Entry) { e.Op.Guards[0].Key = "G" },
		func(e *api.Entry) { e.Op.Guards[0].Value = "" },
		func(e *api.Entry) { e.Op.Guards[1].Kind = api.Lacks },
		func(e *api.Entry) { e.Op.Guards[1].Key = "" },
		func(e *api.Entry) { e.Op.Guards[1].Value = "v" },
		func(e *api.Entry) { e.Op.Guards = e.Op.Guards[:1] },
		func(e *api.Entry) { e.Op.Guards = e.Op.Guards[1:] },
		func(e *api.Entry) { e.Op.Guards = nil },
		func(e *api.Entry) { slices.Reverse(e.Op.Guards) },
		func(e *api.Entry) { e.Op.Guards = append(e.Op.Guards, e.Op.Guards[1]) },
		func(e *api.Entry) { e.Op.Steps[0].Kind = api.Put },
		func(e *api.Entry) { e.Op.Steps[0].Key = "" },
		func(e *api.Entry) { e.Op.Steps[0].Value = "o" },
		func(e *api.Entry) { e.Op.Steps[0].Old = "v" },
		func(e *api.Entry) { e.Op.Steps[0].N = 1 },
		func(e *api.Entry) { e.Op.Steps[1].N = -5 },
		func(e *api.Entry) { e.Op.Steps[1].Old = "o" },
		func(e *api.Entry) { e.Op.Steps = e.Op.Steps[:1] },
		func(e *api.Entry) { e.Op.Steps = e.Op.Steps[1:] },
		func(e *api.Entry) { e.Op.Steps = nil },
		func(e *api.Entry) { slices.Reverse(e.Op.Steps) },
		func(e *api.Entry) { e.Op.Steps = append(e.Op.Steps, e.Op.Steps[1]) },
	} {
		e := first()
		change(&e)
		l = append(l, e)
	}
	return l
}

func checkSame(t *testing.T, a, b []api.Entry) {
	t.Helper()
	if want := told(a) == told(b); Same(a, b) != want || Same(b, a) != want {
		t.Fatalf("%s and %s are the same: not %v", told(a), told(b), want)
	}
}

func TestSameOfUnlikeEntries(t *testing.T) {
	l := unlike()
	for i, a := range l {
		for j, b := range l {
			if Same([]api.Entry{a}, []api.Entry{b}) != (i == j) {
				t.Fatalf("%d and %d", i, j)
			}
		}
		for _, length := range []int{1, 2, 3, 16, 17} {
			for _, at := range ends(length) {
				one, other := aRow(length), aRow(length)
				one[at], other[at] = l[0], clone(l[i : i+1])[0]
				checkSame(t, one, other)
				checkSame(t, other, other)
			}
		}
	}
}

func TestSameOfRows(t *testing.T) {
	if !Same(nil, nil) || !Same(nil, []api.Entry{}) || !Same([]api.Entry{}, nil) {
		t.Error("no entries")
	}
	few := allOfFew()[:100]
	for _, a := range few {
		for _, b := range few {
			checkSame(t, a, clone(b))
		}
	}
	for _, l := range someRows(2, 10) {
		for length := range len(l) + 1 {
			checkSame(t, l, l[:length])
		}
		reversed := clone(l)
		slices.Reverse(reversed)
		checkSame(t, l, reversed)
		checkSame(t, l, clone(l))
		turned := append(clone(l[len(l)-len(l)/3:]), l[:len(l)-len(l)/3]...)
		checkSame(t, l, turned)
		if len(l) > 1 && (Same(l, reversed) || !Same(l, clone(l)) || Same(l, l[1:])) {
			t.Fatal(told(l))
		}
	}
	if l := aRow(300); !Same(l, aRow(300)) || Same(l, aRow(299)) {
		t.Error("long rows")
	}
}

// A list without an element may be nil or empty.
func TestSameOfEmptyLists(t *testing.T) {
	a := []api.Entry{{Id: api.Id{Seq: 1}, Op: api.Op{Guards: nil, Steps: []api.Step{{Kind: api.Delete}}}}, {Op: api.Op{}}}
	b := []api.Entry{{Id: api.Id{Seq: 1}, Op: api.Op{Guards: []api.Guard{}, Steps: []api.Step{{Kind: api.Delete}}}}, {Op: api.Op{Guards: []api.Guard{}, Steps: []api.Step{}}}}
	if !Same(a, b) || !Same(b, a) {
		t.Error("nil and empty")
	}
	checkPrinted(t, a[:1], "\x01\x00\x01\x00\x01\x02\x00")
	checkPrinted(t, b[:1], "\x01\x00\x01\x00\x01\x02\x00")
}

// P13.2

func TestParse(t *testing.T) {
	for _, x := range rows() {
		checkParsed(t, x.s, x.l)
	}
	for _, l := range someRows(3, 100) {
		checkParsed(t, bytesOf(l), l)
	}
}

// Errors written out: what is told, and all the places, the outermost first.
func TestErrors(t *testing.T) {
	const d = "\x00\x01\x02\x01d"
	for _, x := range []struct {
		s      string
		code   api.Code
		places []int
	}{
		{"", api.Short, []int{0}},
		{"\x80", api.Short, []int{0}},
		{"\x80\x00", api.Form, []int{0}},
		{"\x11", api.Long, []int{0}},
		{"\xff\xff\xff\xff\xff\xff\xff\xff\xff\x01", api.Long, []int{0}},
		{"\xff\xff\xff\xff\xff\xff\xff\xff\xff\x02", api.Long, []int{0}},
		{"\x00\x00", api.Long, []int{1}},
		{"\x00abc", api.Long, []int{1}},
		{"\x01", api.Short, []int{0, 1}},
		{"\x01\xff", api.Short, []int{0, 1}},
		{"\x01\x80\x02", api.Range, []int{0, 1}},
		{"\x01\x80\x02\x00", api.Range, []int{0, 1}},
		{"\x01\x80\x00", api.Form, []int{0, 1}},
		{"\x01\xff\x01", api.Short, []int{0, 3}},
		{"\x01\x00", api.Short, []int{0, 2}},
		{"\x01\x00\x80", api.Short, []int{0, 2}},
		{"\x01\x00\x00", api.Range, []int{0, 2}},
		{"\x01\x00\x81\x00", api.Form, []int{0, 2}},
		{"\x01\x00\x81\x80\x80\x80\x10", api.Range, []int{0, 2}},
		{"\x01\x00\x80\x80\x80\x80\x10", api.Short, []int{0, 7}},
		{"\x01\x00\x01", api.Short, []int{0, 3}},
		{"\x01\x00\x01\x05", api.Long, []int{0, 3}},
		{"\x01\x00\x01\x00\x00", api.Range, []int{0, 4}},
		{"\x01\x00\x01\x00\x05", api.Long, []int{0, 4}},
		{"\x01\x00\x01\x00\x01", api.Short, []int{0, 0, 5}},
		{"\x01\x00\x01\x00\x01\x05", api.Kind, []int{0, 0, 5}},
		{"\x01\x00\x01\x01\x01\x01k\x01\x02\x02k", api.Short, []int{0, 1, 9}},
		{"\x01\x00\x01" + d + "\x00", api.Long, []int{8}},
		{"\x01\x00\x01" + d + "\x00\x01" + d, api.Long, []int{8}},
		{"\x02\x00\x01" + d, api.Short, []int{1, 8}},
		{"\x02\x00\x01" + d + "\x00", api.Short, []int{1, 9}},
		{"\x02\x00\x01" + d + "\x00\x00", api.Range, []int{1, 9}},
		{"\x02\x00\x01" + d + "\x80\x02", api.Range, []int{1, 8}},
		{"\x02\x00\x01" + d + "\x00\x01", api.Twice, []int{1, 8}},
		{"\x02\x00\x01" + d + "\x00\x01" + d, api.Twice, []int{1, 8}},
		{"\x02\x00\x01" + d + "\x00\x01\xff\xff", api.Twice, []int{1, 8}},
		{"\x02\x00\x01" + d + "\x00\x02\x00\x01\x02\x11", api.Long, []int{1, 0, 13}},
		{"\x02\x00\x01" + d + "\x01\x01\x01\x03\x01k\x21", api.Long, []int{1, 0, 14}},
		{"\x03\x80\x01\x01" + d + "\x00\x01" + d + "\x80\x01\x01", api.Twice, []int{2, 16}},
		{"\x03\x00\x02" + d + "\x00\x01" + d + "\x00\x01" + d, api.Twice, []int{2, 15}},
	} {
		checkError(t, x.s, x.code, x.places...)
	}
}

// What the README tells of this layer.
func TestReadme(t *testing.T) {
	put := api.Entry{Id: api.Id{Origin: 0, Seq: 7}, Op: api.Op{Steps: []api.Step{{Kind: api.Put, Key: "k", Value: "a"}}}}
	const entry = "\x00\x07\x00\x01\x01\x01k\x01a"
	checkPrinted(t, []api.Entry{put}, "\x01"+entry)
	if _, err := Parse("\x02" + entry + entry); fail.Text(err) != "at 1: at 10: twice" {
		t.Error(fail.Text(err))
	}
}

// The bytes end ahead of each of a batch's bytes.
func TestParseCutShort(t *testing.T) {
	for _, l := range someRows(4, 2) {
		all := items(l)
		s, from := join(all), 0
		for _, i := range all {
			for cut := from; cut < from+len(i.s); cut++ {
				switch {
				case i.entry < 0:
					checkError(t, s[:cut], api.Short, from)
				case i.what == operation:
					_, _, w := shifted(s[from:cut], from)
					if w.code != api.Short {
						t.Fatalf("%q is no operation cut short", s[from:cut])
					}
					checkError(t, s[:cut], api.Short, slices.Insert(w.places, 0, i.entry)...)
				default:
					checkError(t, s[:cut], api.Short, i.entry, from)
				}
			}
			from += len(i.s)
		}
	}
}

// flaw is what may stand wrongly where an item should, what is told of it, and at which places, counted from where it begins.
type flaw struct {
	s string
	w wrong
}

func flaws(what int) []flaw {
	var l []flaw
	add := func(s string, code api.Code, places ...int) {
		l = append(l, flaw{s, wrong{code, places}})
	}
	for _, s := range overlong {
		add(s, api.Form, 0)
	}
	for _, s := range beyond {
		add(s, api.Long, 0)
	}
	of := func(code api.Code, numbers ...uint64) {
		for _, n := range numbers {
			add(num(n), code, 0)
		}
	}
	switch what {
	case count:
		of(api.Long, 17, 18, 32, 127, 128, 255, 256, 257, 272, 1<<16, 1<<32)
		of(api.Long, great...)
	case origin:
		of(api.Range, 256, 257, 258, 511, 512, 1<<16, 1<<16+1, 1<<32)
		of(api.Range, great...)
	case seq:
		of(api.Range, 0)
		of(api.Range, great...)
	case operation:
		of(api.Long, 5, 6, 1<<32)
		of(api.Long, great...)
		for _, s := range []string{"\x00\x00", "\x00\x05", "\x00\x81\x00", "\x00\x01\x00", "\x00\x01\x05", "\x00\x01\x81\x00", "\x00\x01\x02\x11", "\x00\x01\x01\x01k\x21", "\x00\x02\x02\x00\x07", "\x00\x01\x03\x01n\x80\x00", "\x01\x00", "\x01\x04", "\x01\x01\x11", "\x01\x03\x01k\x21", "\x01\x01\x01h\x00", "\x02\x01\x01h\x04", "\x04\x01\x00\x01\x00\x01\x00\x01\x00\x04\x02\x00\x02\x00\x02\x00\x09"} {
			_, _, w := shifted(s, 0)
			if w.code == api.OK || w.code == api.Short {
				panic(s)
			}
			l = append(l, flaw{s, w})
		}
	}
	return l
}

// places are those of a flaw that stands for an item at the place from.
func (f flaw) places(i item, from int) []int {
	l := slices.Clone(f.w.places)
	l[len(l)-1] += from
	if i.entry >= 0 {
		l = slices.Insert(l, 0, i.entry)
	}
	return l
}

// Each number and operation of a batch is wrong, in each way, whatever stands behind.
func TestParseOneFlaw(t *testing.T) {
	for _, length := range []int{1, 2, 3, 16} {
		all := items(aRow(length))
		from := 0
		for at, i := range all {
			for _, f := range flaws(i.what) {
				s := join(all[:at]) + f.s
				checkError(t, s, f.w.code, f.places(i, from)...)
				checkError(t, s+join(all[at+1:]), f.w.code, f.places(i, from)...)
				checkError(t, s+"\xff\x00\x01", f.w.code, f.places(i, from)...)
			}
			from += len(i.s)
		}
	}
}

// Of two things that are wrong the first one is told.
func TestParseTwoFlaws(t *testing.T) {
	r := rand.New(rand.NewSource(5))
	for _, length := range []int{1, 2, 3, 16} {
		all := items(aRow(length))
		from := 0
		for at, i := range all {
			for _, f := range flaws(i.what) {
				for later := at + 1; later < len(all); later++ {
					other := pick(r, flaws(all[later].what)).s
					s := join(all[:at]) + f.s + join(all[at+1:later]) + other
					checkError(t, s, f.w.code, f.places(i, from)...)
					checkError(t, s+join(all[later+1:])+"behind", f.w.code, f.places(i, from)...)
				}
			}
			from += len(i.s)
		}
	}
}

// The ends of what an Origin and a Seq may be, of each entry.
func TestParseOfEdgesOfNames(t *testing.T) {
	for _, length := range []int{1, 2, 3, 16} {
		for _, at := range ends(length) {
			for _, id := range rightIds {
				l := aRow(length)
				for i := range l {
					l[i].Id = api.Id{Origin: 100, Seq: 1000 + i}
				}
				l[at].Id = id
				checkParsed(t, bytesOf(l), l)
			}
			for _, id := range wrongIds {
				if id.Origin < 0 || id.Seq < 0 {
					continue
				}
				l := aRow(length)
				l[at].Id = id
				ahead := len(join(items(l)[:1+3*at]))
				if id.Origin <= 255 {
					ahead += len(num(uint64(id.Origin)))
				}
				checkError(t, bytesOf(l), api.Range, at, ahead)
			}
		}
	}
}

// An entry has the name of each one ahead, whatever stands behind it.
func TestParseOfNamesThatComeTwice(t *testing.T) {
	for _, length := range []int{2, 3, 5, 16} {
		for later := range length {
			for first := range later {
				l := aRow(length)
				for _, o := range []api.Op{l[later].Op, l[first].Op} {
					l[later].Id, l[later].Op = l[first].Id, o
					all := items(l)
					ahead := join(all[:1+3*later])
					name := all[1+3*later].s + all[2+3*later].s
					checkError(t, join(all), api.Twice, later, len(ahead))
					checkError(t, join(all)+"behind", api.Twice, later, len(ahead))
					checkError(t, ahead+name, api.Twice, later, len(ahead))
					for cut := range all[3+3*later].s {
						checkError(t, ahead+name+all[3+3*later].s[:cut], api.Twice, later, len(ahead))
					}
					for _, f := range flaws(operation) {
						checkError(t, ahead+name+f.s, api.Twice, later, len(ahead))
					}
					checkError(t, ahead+name[:len(name)-1], api.Short, later, len(ahead)+len(all[1+3*later].s))
				}
			}
		}
	}
}

// A name that comes twice behind what is wrong is not told, and neither is one whose numbers are wrong each time.
func TestParseOfNamesThatComeTwiceLater(t *testing.T) {
	const d = "\x00\x01\x02\x01d"
	checkError(t, "\x03\x00\x01"+d+"\x00\x02\x00\x00\x00\x01"+d, api.Range, 1, 11)
	checkError(t, "\x03\x00\x01"+d+"\x00\x01"+d+"\x80\x02\x01"+d, api.Twice, 1, 8)
	checkError(t, "\x03\x00\x00"+d+"\x00\x00"+d+"\x00\x00"+d, api.Range, 0, 2)
	checkError(t, "\x11\x00\x01"+d+"\x00\x01"+d, api.Long, 0)
	checkError(t, "\x02\x00\x01"+d+"\x00\x81\x00"+d, api.Form, 1, 9)
	checkError(t, "\x02\x05\x07"+d+"\x07\x05"+d+"x", api.Long, 15)
	checkError(t, "\x01\x05\x07"+d+"\x05\x07"+d, api.Long, 8)
}

func TestParseWithBytesBehind(t *testing.T) {
	for _, l := range someRows(6, 4) {
		s := bytesOf(l)
		for _, behind := range []string{"\x00", "\x01", "\x80", "\xff", "a", "\n", "\x00\x00", beyond[0], s, strings.Repeat(s, 3), strings.Repeat("\x00\xff", 1<<15)} {
			checkError(t, s+behind, api.Long, len(s))
		}
	}
}

// How many entries are told, and how many there are.
func TestParseOfEachCount(t *testing.T) {
	for many := range 300 {
		for _, length := range []int{0, 1, 2, 15, 16} {
			l := aRow(length)
			s := num(uint64(many)) + bytesOf(l)[1:]
			switch {
			case many > 16:
				checkError(t, s, api.Long, 0)
			case many > length:
				checkError(t, s, api.Short, length, len(s))
			case many == length:
				checkParsed(t, s, l)
			default:
				checkError(t, s, api.Long, len(bytesOf(l[:many])))
			}
		}
	}
}

// upTo are all texts of at most so many of some bytes.
func upTo(most int, some string) []string {
	l := []string{""}
	from := 0
	for range most {
		to := len(l)
		for _, ahead := range l[from:to] {
			for i := range len(some) {
				l = append(l, ahead+some[i:i+1])
			}
		}
		from = to
	}
	return l
}

// fewBytes are all texts of few bytes, with some ahead that lead further.
func fewBytes() []string {
	const d = "\x00\x01\x02\x00"
	l := upTo(5, "\x00\x01\x02\x10\x11\x80\xff")
	for _, ahead := range []string{"\x01\x00\x01", "\x01\x05", "\x02\x00\x01" + d, "\x02\x01\x80\x01" + d, "\x03\x02\x01" + d + "\x01\x02" + d, "\x01\x00\x01\x00\x01"} {
		for _, s := range upTo(4, "\x00\x01\x02\x03\x05\x10\x80\x81\xff") {
			l = append(l, ahead+s, ahead+s+d)
		}
	}
	return l
}

func TestParseOfFewBytes(t *testing.T) {
	right := 0
	for _, s := range fewBytes() {
		if checkReckoned(t, s) {
			right++
		}
	}
	if right < 50 {
		t.Errorf("%d batches: too few", right)
	}
}

// turned are all texts that are s but for one byte turned, left out or put in.
func turned(s string) []string {
	var l []string
	for at := range len(s) + 1 {
		for c := range 256 {
			b := string([]byte{byte(c)})
			l = append(l, s[:at]+b+s[at:])
			if at < len(s) && s[at] != byte(c) {
				l = append(l, s[:at]+b+s[at+1:])
			}
		}
		if at < len(s) {
			l = append(l, s[:at]+s[at+1:])
		}
	}
	return l
}

// shortBatches are batches whose bytes are few, so that many of the texts beside them can be gone through.
func shortBatches() [][]api.Entry {
	ops := rightOps()
	l := [][]api.Entry{nil}
	for _, id := range rightIds {
		l = append(l, []api.Entry{{Id: id, Op: ops[1].o}})
	}
	for _, x := range ops[:5] {
		l = append(l, []api.Entry{{Id: api.Id{Origin: 0, Seq: 2}, Op: x.o}, {Id: api.Id{Origin: 0, Seq: 1}, Op: ops[1].o}})
	}
	l = append(l, []api.Entry{{Id: rightIds[15], Op: ops[1].o}, {Id: rightIds[14], Op: ops[0].o}, {Id: rightIds[13], Op: ops[1].o}})
	for i := range l {
		l[i] = clone(l[i])
	}
	return l
}

func TestParseOfOneByteTurned(t *testing.T) {
	right, twice := 0, 0
	for _, l := range shortBatches() {
		for _, s := range turned(bytesOf(l)) {
			if checkReckoned(t, s) {
				right++
			}
			if _, err := Parse(s); errors.Is(err, api.ErrTwice) {
				twice++
			}
		}
	}
	if right < 1000 || twice < 5 {
		t.Errorf("%d batches, and %d with a name that comes twice: too few", right, twice)
	}
}

// changed is a text with some of its bytes changed, left out, or put in.
func changed(r *rand.Rand, s string) string {
	b := []byte(s)
	for range 1 + r.Intn(3) {
		at, c := r.Intn(len(b)+1), byte(r.Intn(256))
		if r.Intn(2) == 0 {
			c %= 6
		}
		switch {
		case r.Intn(3) == 0:
			b = slices.Insert(b, at, c)
		case at == len(b):
		case r.Intn(3) == 0:
			b = slices.Delete(b, at, at+1)
		default:
			b[at] = c
		}
	}
	return string(b)
}

func TestParseOfChangedBytes(t *testing.T) {
	r := rand.New(rand.NewSource(7))
	right, all := 0, 0
	for _, l := range someRows(8, 40) {
		s := bytesOf(l)
		for range 20 {
			all++
			if checkReckoned(t, changed(r, s)) {
				right++
			}
		}
	}
	if right < 1000 || all-right < 1000 {
		t.Errorf("%d of %d are right: too few of one sort", right, all)
	}
}

// P13.3

func TestBackFromBatches(t *testing.T) {
	for _, l := range append(someRows(9, 200), shortBatches()...) {
		s, err := Print(l)
		if err != nil {
			t.Fatalf("%s: %v", told(l), err)
		}
		checkParsed(t, s, l)
		if other, _ := Parse(s); !Same(l, other) {
			t.Fatalf("%s came back as %s", told(l), told(other))
		}
	}
}

// checkBack looks at what is parsed: it may be, has no name twice, and has just those bytes.
func checkBack(t *testing.T, s string, seen map[string]string) {
	t.Helper()
	l, err := Parse(s)
	if err != nil {
		return
	}
	names := map[api.Id]bool{}
	for _, e := range l {
		names[e.Id] = true
		if !step.Right(e.Op) {
			t.Fatalf("%q: %s has what may not be", s, told(l))
		}
	}
	if len(names) != len(l) {
		t.Fatalf("%q: %s has a name twice", s, told(l))
	}
	checkPrinted(t, l, s)
	if other, ok := seen[told(l)]; ok && other != s {
		t.Fatalf("%q and %q are both parsed as %s", s, other, told(l))
	}
	seen[told(l)] = s
}

func TestBackFromTexts(t *testing.T) {
	r := rand.New(rand.NewSource(10))
	l := fewBytes()
	for _, x := range shortBatches() {
		l = append(l, turned(bytesOf(x))...)
	}
	for _, x := range someRows(11, 40) {
		s := bytesOf(x)
		l = append(l, s)
		for range 10 {
			l = append(l, changed(r, s))
		}
	}
	seen := map[string]string{}
	for _, s := range l {
		checkBack(t, s, seen)
	}
	if len(seen) < 3000 {
		t.Errorf("%d batches: too few", len(seen))
	}
}

// What is handed in and out

// roomy is a list with spare room behind it, and that room too.
func roomy[P any](l []P, spare P) (list, whole []P) {
	whole = append(slices.Clone(l), spare, spare, spare)
	return whole[:len(l)], whole
}

// withRoom is a row, each list of which has spare room, and a function that tells all of it, room and all.
func withRoom(l []api.Entry) ([]api.Entry, func() string) {
	var guards [][]api.Guard
	var steps [][]api.Step
	list, whole := roomy(l, api.Entry{Id: api.Id{Origin: 9, Seq: 9}, Op: deleteOp("spare")})
	for i := range list {
		g, allGuards := roomy(list[i].Op.Guards, api.Guard{Kind: 1, Key: "spare"})
		s, allSteps := roomy(list[i].Op.Steps, api.Step{Kind: 2, Key: "spare"})
		list[i].Op = api.Op{Guards: g, Steps: s}
		guards, steps = append(guards, allGuards), append(steps, allSteps)
	}
	return list, func() string { return told(whole) + fmt.Sprint(guards, steps) }
}

func manyRows() [][]api.Entry {
	l := append(someRows(12, 5), unlike(), aRow(17))
	for _, id := range wrongIds {
		l = append(l, []api.Entry{{Id: id, Op: deleteOp("d")}})
	}
	for _, o := range wrongOps() {
		l = append(l, []api.Entry{{Id: rightIds[0], Op: o}, {Id: rightIds[0], Op: o}})
	}
	return append(l, allOfFew()...)
}

func TestNothingHandedInIsChanged(t *testing.T) {
	for _, l := range manyRows() {
		row, all := withRoom(l)
		other, others := withRoom(l)
		was, wasOther := all(), others()
		Right(row)
		Print(row)
		Ids(row)
		Same(row, other)
		Same(row, row)
		if all() != was || others() != wasOther {
			t.Fatalf("%s was changed", told(l))
		}
	}
}

// What is told of a row hangs on the row as it is then, not on one that was told of earlier.
func TestNothingHandedInIsKept(t *testing.T) {
	for _, l := range manyRows() {
		row := clone(l)
		s, err := Print(row)
		right, ids := Right(row), Ids(row)
		for i := range row {
			row[i].Id.Seq = -7
			for j := range row[i].Op.Steps {
				row[i].Op.Steps[j].Kind = 77
			}
			row[i].Op.Guards = nil
		}
		if !slices.Equal(ids, Ids(l)) || len(l) > 0 && Right(row) {
			t.Fatalf("%s: %v", told(l), ids)
		}
		again, errAgain := Print(l)
		if again != s || fail.Code(errAgain) != fail.Code(err) || Right(l) != right {
			t.Fatalf("%s: %q, and then %q", told(l), s, again)
		}
	}
}

// spoil changes all that could be changed of a row, with the spare room of its lists.
func spoil(l []api.Entry) {
	for i := range l {
		guards, steps := l[i].Op.Guards, l[i].Op.Steps
		for j := range guards[:cap(guards)] {
			guards[:cap(guards)][j] = api.Guard{Kind: 9, Key: "other"}
		}
		for j := range steps[:cap(steps)] {
			steps[:cap(steps)][j] = api.Step{Kind: 9, Key: "other"}
		}
		l[i].Id = api.Id{Origin: -9, Seq: -9}
	}
	whole := l[:cap(l)]
	for i := range whole {
		whole[i].Id = api.Id{Origin: -9, Seq: -9}
	}
}

// Each answer is there as it was, whatever becomes of the others, and of the other lists of its own.
func TestNothingIsShared(t *testing.T) {
	for _, l := range someRows(13, 10) {
		s := bytesOf(l)
		one, _ := Parse(s)
		other, _ := Parse(s)
		spoil(other)
		if told(one) != told(l) {
			t.Fatalf("%s is %s now", told(l), told(one))
		}
		for i := range one {
			spoil(one[i : i+1 : i+1])
			if told(one[i+1:]) != told(l[i+1:]) {
				t.Fatalf("%s is %s behind %d now", told(l), told(one), i)
			}
		}
		checkParsed(t, s, l)
		first, second := Ids(l), Ids(l)
		for i := range first[:cap(first)] {
			first[:cap(first)][i] = api.Id{Origin: -9}
		}
		if !slices.Equal(second, Ids(l)) || len(second) > 0 && second[0] != l[0].Id {
			t.Fatalf("%s: %v now", told(l), second)
		}
	}
}

// A batch's texts are its own: they stay, whatever becomes of the memory out of which they were read.
func TestTextsAreNewMemory(t *testing.T) {
	for _, l := range someRows(14, 5) {
		b := []byte(bytesOf(l))
		one, err := Parse(unsafe.String(&b[0], len(b)))
		for i := range b {
			b[i] ^= 0x55
		}
		if err != nil || told(one) != told(l) {
			t.Fatalf("%s is %s now", told(l), told(one))
		}
	}
}
