package opcode

import (
	"encoding/binary"
	"errors"
	"fmt"
	"math"
	"math/rand"
	"slices"
	"strings"
	"testing"
	"unsafe"

	"philtre/api"
	"philtre/fail"
	"philtre/step"
)

var longest = strings.Repeat("\x00\xff\xc3a", 1<<14)

// text is one of that many bytes, of any kind.
func text(length int) string {
	return longest[:length]
}

// oddTexts have bytes of 0, of 127 to 128 and of 255, and such as are no text in UTF-8.
var oddTexts = []string{"", "\x00", "\x00\x00", "\x01", "\x7f", "\x80", "\x80\x00", "\xc3", "\xc3\xa4", "\xed\xa0\x80", "\xff", "\xff\xff\xff", "a", "a\x00", "key", " ", "-", "\n"}

// num is the bytes of a number, as another package reckons them.
func num(n uint64) string {
	return string(binary.AppendUvarint(nil, n))
}

// sig is the bytes of a number with a sign, likewise.
func sig(n int64) string {
	return string(binary.AppendVarint(nil, n))
}

func txt(s string) string {
	return num(uint64(len(s))) + s
}

// overlong are numbers' bytes that have one more than they need.
var overlong = []string{"\x80\x00", "\x81\x00", "\x84\x00", "\xff\x00", "\x80\x80\x00", "\x81\x80\x00", "\xff\xff\xff\xff\xff\xff\xff\xff\xff\x00"}

// beyond are numbers' bytes that have more than 64 digits.
var beyond = []string{strings.Repeat("\x80", 9) + "\x02", strings.Repeat("\xff", 9) + "\x7f", strings.Repeat("\x80", 10), strings.Repeat("\xff", 11) + "\x00"}

// great are numbers that leave int, or would be another number in fewer digits.
var great = []uint64{127, 128, 255, 256, 257, 258, 259, 260, 1 << 16, 1<<16 + 1, math.MaxInt32, 1 << 31, 1 << 32, 1<<32 + 1, 1<<32 + 2, 1<<32 + 4, math.MaxInt64, 1 << 63, 1<<63 + 1, 1<<63 + 3, math.MaxUint64 - 1, math.MaxUint64}

// What stands in an operation's bytes.
const (
	guardCount = iota
	stepCount
	guardKind
	stepKind
	keyText
	valueText
	signedNumber
)

// item is a number or a text of an operation's bytes; its part is -1, if it is of none.
type item struct {
	what, part int
	s          string
}

// items are an operation's bytes, one thing after another, from a table of what each kind has.
func items(o api.Op) []item {
	l := []item{{guardCount, -1, num(uint64(len(o.Guards)))}}
	for i, g := range o.Guards {
		l = append(l, item{guardKind, i, num(uint64(g.Kind))}, item{keyText, i, txt(g.Key)})
		if g.Kind == 3 {
			l = append(l, item{valueText, i, txt(g.Value)})
		}
	}
	l = append(l, item{stepCount, -1, num(uint64(len(o.Steps)))})
	for i, s := range o.Steps {
		part := len(o.Guards) + i
		l = append(l, item{stepKind, part, num(uint64(s.Kind))}, item{keyText, part, txt(s.Key)})
		l = append(l, map[int][]item{
			1: {{valueText, part, txt(s.Value)}},
			2: nil,
			3: {{signedNumber, part, sig(s.N)}},
			4: {{valueText, part, txt(s.Old)}, {valueText, part, txt(s.Value)}},
		}[s.Kind]...)
	}
	return l
}

func join(l []item) string {
	var b strings.Builder
	for _, i := range l {
		b.WriteString(i.s)
	}
	return b.String()
}

// places are those of an error at an item that stands at the place at.
func (i item) places(at int) []int {
	if i.part < 0 {
		return []int{at}
	}
	return []int{i.part, at}
}

// flaw is what may stand wrongly where an item should, and what is told of it.
type flaw struct {
	s    string
	code api.Code
}

func flaws(what int) []flaw {
	var l []flaw
	for _, s := range overlong {
		l = append(l, flaw{s, api.Form})
	}
	for _, s := range beyond {
		l = append(l, flaw{s, api.Long})
	}
	of := func(code api.Code, numbers ...uint64) {
		for _, n := range numbers {
			l = append(l, flaw{num(n), code})
		}
	}
	switch what {
	case guardCount:
		of(api.Long, 5, 6)
		of(api.Long, great...)
	case stepCount:
		of(api.Range, 0)
		of(api.Long, 5, 6)
		of(api.Long, great...)
	case guardKind:
		of(api.Kind, 0, 4, 5, 6)
		of(api.Kind, great...)
	case stepKind:
		of(api.Kind, 0, 5, 6, 7)
		of(api.Kind, great...)
	case keyText:
		of(api.Long, 17, 18, 32, 33)
		of(api.Long, great...)
		l = append(l, flaw{txt(text(17)), api.Long}, flaw{txt(text(32)), api.Long})
	case valueText:
		of(api.Long, 33, 34, 64)
		of(api.Long, great...)
		l = append(l, flaw{txt(text(33)), api.Long}, flaw{txt(text(300)), api.Long})
	}
	return l
}

// wrong is an error that the test's own reading tells.
type wrong struct {
	code   api.Code
	places []int
}

// reckoner reads as the package is to read, by other means: what is wrong is thrown.
type reckoner struct {
	s        string
	at, part int
}

func (k *reckoner) throw(at int, code api.Code) {
	panic(wrong{code, item{part: k.part}.places(at)})
}

func (k *reckoner) number() uint64 {
	if k.at < 0 || k.at > len(k.s) {
		k.throw(k.at, api.Range)
	}
	next := k.s[k.at:min(len(k.s), k.at+10)]
	last := slices.IndexFunc([]byte(next), func(c byte) bool { return c < 128 })
	switch {
	case last < 0 && len(next) < 10:
		k.throw(k.at, api.Short)
	case last < 0 || last == 9 && next[9] > 1:
		k.throw(k.at, api.Long)
	case last > 0 && next[last] == 0:
		k.throw(k.at, api.Form)
	}
	n, _ := binary.Uvarint([]byte(next))
	k.at += last + 1
	return n
}

func (k *reckoner) among(least, most uint64, below, above api.Code) int {
	at := k.at
	n := k.number()
	if n < least {
		k.throw(at, below)
	}
	if n > most {
		k.throw(at, above)
	}
	return int(n)
}

func (k *reckoner) text(most uint64) string {
	at := k.at
	length := k.number()
	if length > most {
		k.throw(at, api.Long)
	}
	if uint64(len(k.s)) < uint64(k.at)+length {
		k.throw(at, api.Short)
	}
	k.at += int(length)
	return k.s[k.at-int(length) : k.at]
}

// reckon is what Take is to answer.
func reckon(s string, at int) (o api.Op, next int, w wrong) {
	defer func() {
		if thrown := recover(); thrown != nil {
			o, next, w = api.Op{}, 0, thrown.(wrong)
		}
	}()
	k := &reckoner{s, at, -1}
	guards := k.among(0, 4, api.OK, api.Long)
	for k.part = 0; k.part < guards; k.part++ {
		g := api.Guard{Kind: k.among(1, 3, api.Kind, api.Kind), Key: k.text(16)}
		if g.Kind == 3 {
			g.Value = k.text(32)
		}
		o.Guards = append(o.Guards, g)
	}
	k.part = -1
	steps := k.among(1, 4, api.Range, api.Long)
	for k.part = guards; k.part < guards+steps; k.part++ {
		s := api.Step{Kind: k.among(1, 4, api.Kind, api.Kind), Key: k.text(16)}
		if s.Kind == 4 {
			s.Old = k.text(32)
		}
		if s.Kind == 4 || s.Kind == 1 {
			s.Value = k.text(32)
		}
		if s.Kind == 3 {
			twice := k.number()
			s.N = int64(twice/2) ^ -int64(twice%2)
		}
		o.Steps = append(o.Steps, s)
	}
	return o, k.at, wrong{}
}

func clone(o api.Op) api.Op {
	return api.Op{Guards: slices.Clone(o.Guards), Steps: slices.Clone(o.Steps)}
}

// same says whether two operations are the same, without asking a layer.
func same(a, b api.Op) bool {
	return slices.Equal(a.Guards, b.Guards) && slices.Equal(a.Steps, b.Steps)
}

func isEmpty(o api.Op) bool {
	return len(o.Guards) == 0 && len(o.Steps) == 0
}

func checkError(t *testing.T, what, s string, at int, err error, code api.Code, places []int) {
	t.Helper()
	if err == nil || fail.Code(err) != code || !errors.Is(err, fail.New(code)) || !slices.Equal(fail.Places(err), places) {
		t.Fatalf("%s of %q at %d: %q, not code %d at %v", what, s, at, fail.Text(err), code, places)
	}
}

func checkTakeError(t *testing.T, s string, at int, code api.Code, places ...int) {
	t.Helper()
	o, next, err := Take(s, at)
	checkError(t, "Take", s, at, err, code, places)
	if !isEmpty(o) || next != 0 {
		t.Fatalf("%q at %d: %#v and %d beside an error", s, at, o, next)
	}
}

func checkParseError(t *testing.T, s string, code api.Code, places ...int) {
	t.Helper()
	o, err := Parse(s)
	checkError(t, "Parse", s, 0, err, code, places)
	if !isEmpty(o) {
		t.Fatalf("%q: %#v beside an error", s, o)
	}
}

// checkBothErrors is for what is wrong from place 0 on.
func checkBothErrors(t *testing.T, s string, code api.Code, places ...int) {
	t.Helper()
	checkTakeError(t, s, 0, code, places...)
	checkParseError(t, s, code, places...)
}

func checkTaken(t *testing.T, s string, at int, want api.Op, behind int) {
	t.Helper()
	o, next, err := Take(s, at)
	if err != nil || next != behind || !same(o, want) {
		t.Fatalf("%q at %d: %#v, %d, %q, not %#v and %d", s, at, o, next, fail.Text(err), want, behind)
	}
}

func checkParsed(t *testing.T, s string, want api.Op) {
	t.Helper()
	o, err := Parse(s)
	if err != nil || !same(o, want) {
		t.Fatalf("%q: %#v, %q, not %#v", s, o, fail.Text(err), want)
	}
}

func checkPrinted(t *testing.T, o api.Op, want string) {
	t.Helper()
	s, err := Print(o)
	if err != nil || s != want {
		t.Fatalf("%#v: %q, %q, not %q", o, s, fail.Text(err), want)
	}
}

func checkBadOp(t *testing.T, o api.Op) {
	t.Helper()
	s, err := Print(o)
	if s != "" || err != api.ErrBadOp || len(fail.Places(err)) > 0 {
		t.Fatalf("%#v: %q, %v", o, s, err)
	}
}

// checkReckoned holds Take and Parse against the test's own reading, and tells whether there is an operation.
func checkReckoned(t *testing.T, s string, at int) bool {
	t.Helper()
	o, next, w := reckon(s, at)
	if w.code != api.OK {
		checkTakeError(t, s, at, w.code, w.places...)
		if at == 0 {
			checkParseError(t, s, w.code, w.places...)
		}
		return false
	}
	checkTaken(t, s, at, o, next)
	if at == 0 && next == len(s) {
		checkParsed(t, s, o)
	}
	if at == 0 && next < len(s) {
		checkParseError(t, s, api.Long, next)
	}
	return true
}

func ofSteps(steps ...api.Step) api.Op { return api.Op{Steps: steps} }

// withGuards has a step too, as without one no operation may be.
func withGuards(guards ...api.Guard) api.Op {
	return api.Op{Guards: guards, Steps: []api.Step{{Kind: api.Delete, Key: "d"}}}
}

type row struct {
	o api.Op
	s string
}

// rows are operations, and their bytes written out.
func rows() []row {
	ff := strings.Repeat("\xff", 9) + "\x01"
	return []row{
		{ofSteps(api.Step{Kind: api.Put, Key: "k", Value: "a"}), "\x00\x01\x01\x01k\x01a"},
		{ofSteps(api.Step{Kind: api.Put}), "\x00\x01\x01\x00\x00"},
		{ofSteps(api.Step{Kind: api.Delete}), "\x00\x01\x02\x00"},
		{ofSteps(api.Step{Kind: api.Delete, Key: "key"}), "\x00\x01\x02\x03key"},
		{ofSteps(api.Step{Kind: api.Add}), "\x00\x01\x03\x00\x00"},
		{ofSteps(api.Step{Kind: api.Add, Key: "n", N: -1}), "\x00\x01\x03\x01n\x01"},
		{ofSteps(api.Step{Kind: api.Add, Key: "n", N: 1}), "\x00\x01\x03\x01n\x02"},
		{ofSteps(api.Step{Kind: api.Add, Key: "n", N: 5}), "\x00\x01\x03\x01n\x0a"},
		{ofSteps(api.Step{Kind: api.Add, Key: "n", N: 63}), "\x00\x01\x03\x01n\x7e"},
		{ofSteps(api.Step{Kind: api.Add, Key: "n", N: -64}), "\x00\x01\x03\x01n\x7f"},
		{ofSteps(api.Step{Kind: api.Add, Key: "n", N: 64}), "\x00\x01\x03\x01n\x80\x01"},
		{ofSteps(api.Step{Kind: api.Add, Key: "n", N: math.MinInt64}), "\x00\x01\x03\x01n" + ff},
		{ofSteps(api.Step{Kind: api.Add, Key: "n", N: math.MaxInt64}), "\x00\x01\x03\x01n\xfe" + ff[1:]},
		{ofSteps(api.Step{Kind: api.Cas}), "\x00\x01\x04\x00\x00\x00"},
		{ofSteps(api.Step{Kind: api.Cas, Key: "k", Old: "was", Value: "is"}), "\x00\x01\x04\x01k\x03was\x02is"},
		{withGuards(api.Guard{Kind: api.Has}), "\x01\x01\x00\x01\x02\x01d"},
		{withGuards(api.Guard{Kind: api.Has, Key: "h"}), "\x01\x01\x01h\x01\x02\x01d"},
		{withGuards(api.Guard{Kind: api.Lacks, Key: "l"}), "\x01\x02\x01l\x01\x02\x01d"},
		{withGuards(api.Guard{Kind: api.Equals}), "\x01\x03\x00\x00\x01\x02\x01d"},
		{withGuards(api.Guard{Kind: api.Equals, Key: "e", Value: "va"}), "\x01\x03\x01e\x02va\x01\x02\x01d"},
		{everyKind(), "\x03\x01\x01h\x02\x02l\x00\x03\x00\x03\xff\xfev\x04\x01\x01p\x01\x00\x02\x00\x03\x01n\xd7\x04\x04\x01c\x01o\x02vv"},
		{api.Op{Guards: many(4, api.Guard{Kind: api.Has}), Steps: many(4, api.Step{Kind: api.Delete})}, "\x04\x01\x00\x01\x00\x01\x00\x01\x00\x04\x02\x00\x02\x00\x02\x00\x02\x00"},
	}
}

// everyKind has a guard of each kind, and a step of each.
func everyKind() api.Op {
	return api.Op{
		Guards: []api.Guard{{Kind: api.Has, Key: "h"}, {Kind: api.Lacks, Key: "l\x00"}, {Kind: api.Equals, Value: "\xff\xfev"}},
		Steps:  []api.Step{{Kind: api.Put, Key: "p", Value: "\x00"}, {Kind: api.Delete}, {Kind: api.Add, Key: "n", N: -300}, {Kind: api.Cas, Key: "c", Old: "o", Value: "vv"}},
	}
}

// fullest has as many parts as may be, with the longest texts.
func fullest() api.Op {
	key, value := text(16), text(32)
	return api.Op{
		Guards: []api.Guard{{Kind: api.Equals, Key: key, Value: value}, {Kind: api.Has, Key: key}, {Kind: api.Lacks, Key: key}, {Kind: api.Equals, Key: key, Value: value}},
		Steps:  []api.Step{{Kind: api.Cas, Key: key, Old: value, Value: value}, {Kind: api.Add, Key: key, N: math.MinInt64}, {Kind: api.Put, Key: key, Value: value}, {Kind: api.Cas, Key: key, Old: value, Value: value}},
	}
}

// many is a list of that many, of the same one.
func many[P any](n int, p P) []P {
	return slices.Repeat([]P{p}, n)
}

func randomText(r *rand.Rand, most int) string {
	switch r.Intn(4) {
	case 0:
		return text(most)
	case 1:
		return oddTexts[r.Intn(len(oddTexts))]
	}
	b := make([]byte, r.Intn(most+1))
	r.Read(b)
	return string(b)
}

func randomNumber(r *rand.Rand) int64 {
	edges := []int64{0, 1, -1, 63, 64, -64, -65, math.MaxInt64, math.MinInt64, math.MinInt64 + 1}
	if i := r.Intn(2 * len(edges)); i < len(edges) {
		return edges[i]
	}
	return int64(r.Uint64()) >> r.Intn(64)
}

// randomOp is one that may be.
func randomOp(r *rand.Rand) api.Op {
	var o api.Op
	for range r.Intn(5) {
		g := api.Guard{Kind: 1 + r.Intn(3), Key: randomText(r, 16)}
		if g.Kind == api.Equals {
			g.Value = randomText(r, 32)
		}
		o.Guards = append(o.Guards, g)
	}
	for range 1 + r.Intn(4) {
		s := api.Step{Kind: 1 + r.Intn(4), Key: randomText(r, 16)}
		if s.Kind == api.Put || s.Kind == api.Cas {
			s.Value = randomText(r, 32)
		}
		if s.Kind == api.Cas {
			s.Old = randomText(r, 32)
		}
		if s.Kind == api.Add {
			s.N = randomNumber(r)
		}
		o.Steps = append(o.Steps, s)
	}
	return o
}

// someOps are those of the rows, the fullest one, and others.
func someOps(others int) []api.Op {
	l := []api.Op{everyKind(), fullest()}
	for _, x := range rows() {
		l = append(l, x.o)
	}
	r := rand.New(rand.NewSource(9))
	for range others {
		l = append(l, randomOp(r))
	}
	return l
}

// P9.1

// The chapter's own example.
func TestExample(t *testing.T) {
	checkPrinted(t, ofSteps(api.Step{Kind: api.Put, Key: "k", Value: "a"}), string([]byte{0, 1, 1, 1, 'k', 1, 'a'}))
}

func TestPrint(t *testing.T) {
	for _, x := range rows() {
		checkPrinted(t, x.o, x.s)
	}
	for _, o := range someOps(3000) {
		checkPrinted(t, o, join(items(o)))
	}
}

func TestPrintOfEachCount(t *testing.T) {
	g, s := api.Guard{Kind: api.Equals, Key: "a", Value: "1"}, api.Step{Kind: api.Add, Key: "n", N: 5}
	for _, guards := range []int{0, 1, 2, 3, 4, 5, 6, 255, 256, 257, 260} {
		for _, steps := range []int{0, 1, 2, 3, 4, 5, 6, 255, 256, 257, 260} {
			o := api.Op{Guards: many(guards, g), Steps: many(steps, s)}
			if guards > 4 || steps < 1 || steps > 4 {
				checkBadOp(t, o)
				continue
			}
			checkPrinted(t, o, num(uint64(guards))+strings.Repeat("\x03\x01a\x011", guards)+num(uint64(steps))+strings.Repeat("\x03\x01n\x0a", steps))
		}
	}
}

func TestPrintOfNoParts(t *testing.T) {
	s := []api.Step{{Kind: api.Delete, Key: "d"}}
	checkPrinted(t, api.Op{Guards: nil, Steps: s}, "\x00\x01\x02\x01d")
	checkPrinted(t, api.Op{Guards: []api.Guard{}, Steps: s}, "\x00\x01\x02\x01d")
	checkBadOp(t, api.Op{})
	checkBadOp(t, api.Op{Guards: []api.Guard{}, Steps: []api.Step{}})
	checkBadOp(t, api.Op{Guards: []api.Guard{{Kind: api.Has}}})
	checkBadOp(t, api.Op{Guards: []api.Guard{{Kind: api.Has}}, Steps: []api.Step{}})
}

func TestPrintOfEachLength(t *testing.T) {
	for _, key := range []int{0, 1, 15, 16, 17, 32, 272, 65536} {
		for _, value := range []int{0, 1, 31, 32, 33, 64, 288, 65536} {
			for _, o := range []api.Op{
				withGuards(api.Guard{Kind: api.Equals, Key: text(key), Value: text(value)}),
				ofSteps(api.Step{Kind: api.Put, Key: text(key), Value: text(value)}),
				ofSteps(api.Step{Kind: api.Cas, Key: text(key), Value: text(value)}),
				ofSteps(api.Step{Kind: api.Cas, Key: text(key), Old: text(value)}),
				ofSteps(api.Step{Kind: api.Cas, Key: text(key), Old: text(value), Value: text(value)}),
			} {
				if key <= 16 && value <= 32 {
					checkPrinted(t, o, join(items(o)))
				} else {
					checkBadOp(t, o)
				}
			}
		}
		for _, o := range []api.Op{
			withGuards(api.Guard{Kind: api.Has, Key: text(key)}), withGuards(api.Guard{Kind: api.Lacks, Key: text(key)}),
			ofSteps(api.Step{Kind: api.Delete, Key: text(key)}), ofSteps(api.Step{Kind: api.Add, Key: text(key), N: 7}),
		} {
			if key <= 16 {
				checkPrinted(t, o, join(items(o)))
			} else {
				checkBadOp(t, o)
			}
		}
	}
}

func TestPrintOfEachNumber(t *testing.T) {
	l := []int64{0, math.MinInt64, math.MaxInt64}
	for i := range 63 {
		for _, n := range []int64{1<<i - 1, 1 << i, 1<<i + 1} {
			l = append(l, n, -n, -n-1)
		}
	}
	for _, n := range l {
		checkPrinted(t, ofSteps(api.Step{Kind: api.Add, Key: "n", N: n}), "\x00\x01\x03\x01n"+sig(n))
	}
}

func TestPrintOfOddTexts(t *testing.T) {
	for _, key := range oddTexts {
		for _, value := range oddTexts {
			checkPrinted(t, ofSteps(api.Step{Kind: api.Put, Key: key, Value: value}), "\x00\x01\x01"+txt(key)+txt(value))
			checkPrinted(t, ofSteps(api.Step{Kind: api.Cas, Key: "k", Old: key, Value: value}), "\x00\x01\x04\x01k"+txt(key)+txt(value))
			checkPrinted(t, withGuards(api.Guard{Kind: api.Equals, Key: key, Value: value}), "\x01\x03"+txt(key)+txt(value)+"\x01\x02\x01d")
		}
	}
}

// wrongParts are guards and steps that may not be: each is wrong in one way, but those of no kind.
func wrongParts() ([]api.Guard, []api.Step) {
	guards := []api.Guard{
		{Kind: api.Has, Key: "a", Value: "1"}, {Kind: api.Has, Value: "\x00"}, {Kind: api.Lacks, Key: "a", Value: "1"}, {Kind: api.Lacks, Value: text(32)},
		{Kind: api.Equals, Value: text(33)}, {Kind: api.Has, Key: text(17)}, {Kind: api.Lacks, Key: text(17)}, {Kind: api.Equals, Key: text(17)},
	}
	steps := []api.Step{
		{Kind: api.Put, Key: text(17)}, {Kind: api.Put, Value: text(33)}, {Kind: api.Put, Value: "1", Old: "0"}, {Kind: api.Put, Value: "1", N: 1},
		{Kind: api.Delete, Key: text(17)}, {Kind: api.Delete, Value: "1"}, {Kind: api.Delete, Old: "0"}, {Kind: api.Delete, N: -1},
		{Kind: api.Add, Key: text(17)}, {Kind: api.Add, N: 1, Value: "1"}, {Kind: api.Add, N: 1, Old: "0"},
		{Kind: api.Cas, Key: text(17)}, {Kind: api.Cas, Value: text(33)}, {Kind: api.Cas, Old: text(33)}, {Kind: api.Cas, N: math.MinInt64},
	}
	for _, kind := range []int{0, -1, -2, -3, -4, 4, 5, 6, 127, 128, 129, 256, 257, 259, 1<<32 + 1, math.MaxInt, math.MinInt, math.MinInt + 1} {
		guards = append(guards, api.Guard{Kind: kind}, api.Guard{Kind: kind, Key: "a"}, api.Guard{Kind: kind, Key: "a", Value: "1"})
		if kind != api.Cas {
			steps = append(steps, api.Step{Kind: kind}, api.Step{Kind: kind, Key: "a"}, api.Step{Kind: kind, Key: "a", Value: "1"}, api.Step{Kind: kind, Key: "a", N: 1})
		}
	}
	return guards, steps
}

func TestPrintOfWrongParts(t *testing.T) {
	guards, steps := wrongParts()
	whole := fullest()
	for _, g := range guards {
		checkBadOp(t, withGuards(g))
		for at := range whole.Guards {
			o := clone(whole)
			o.Guards[at] = g
			checkBadOp(t, o)
		}
	}
	for _, s := range steps {
		checkBadOp(t, ofSteps(s))
		for at := range whole.Steps {
			o := clone(whole)
			o.Steps[at] = s
			checkBadOp(t, o)
		}
	}
}

// P9.2

func TestTakeAndParse(t *testing.T) {
	for _, x := range rows() {
		checkTaken(t, x.s, 0, x.o, len(x.s))
		checkParsed(t, x.s, x.o)
	}
}

// Errors written out: what is told, and all the places, the outermost first.
func TestErrors(t *testing.T) {
	for _, x := range []struct {
		s      string
		code   api.Code
		places []int
	}{
		{"", api.Short, []int{0}},
		{"\x80", api.Short, []int{0}},
		{"\x80\x00", api.Form, []int{0}},
		{"\x05", api.Long, []int{0}},
		{beyond[0], api.Long, []int{0}},
		{"\x00", api.Short, []int{1}},
		{"\x00\x00", api.Range, []int{1}},
		{"\x00\x05", api.Long, []int{1}},
		{"\x00\x81\x00", api.Form, []int{1}},
		{"\x00\x01", api.Short, []int{0, 2}},
		{"\x00\x01\x00", api.Kind, []int{0, 2}},
		{"\x00\x01\x05", api.Kind, []int{0, 2}},
		{"\x00\x01" + num(math.MaxUint64), api.Kind, []int{0, 2}},
		{"\x00\x01\x81\x00", api.Form, []int{0, 2}},
		{"\x00\x01" + beyond[2], api.Long, []int{0, 2}},
		{"\x00\x01\x01", api.Short, []int{0, 3}},
		{"\x00\x01\x01\x03ab", api.Short, []int{0, 3}},
		{"\x00\x01\x01\x11" + text(17), api.Long, []int{0, 3}},
		{"\x00\x01\x01\x01k", api.Short, []int{0, 5}},
		{"\x00\x01\x01\x01k\x02v", api.Short, []int{0, 5}},
		{"\x00\x01\x01\x01k\x21" + text(33), api.Long, []int{0, 5}},
		{"\x00\x01\x03\x01k", api.Short, []int{0, 5}},
		{"\x00\x01\x03\x01k\x80", api.Short, []int{0, 5}},
		{"\x00\x01\x03\x01k\x80\x00", api.Form, []int{0, 5}},
		{"\x00\x01\x03\x01k" + beyond[0], api.Long, []int{0, 5}},
		{"\x00\x01\x04\x01k\x21" + text(33), api.Long, []int{0, 5}},
		{"\x00\x01\x04\x01k\x02ab", api.Short, []int{0, 8}},
		{"\x00\x01\x04\x01k\x02ab\x21" + text(33), api.Long, []int{0, 8}},
		{"\x00\x02\x02\x01d", api.Short, []int{1, 5}},
		{"\x00\x02\x02\x01d\x00", api.Kind, []int{1, 5}},
		{"\x01", api.Short, []int{0, 1}},
		{"\x01\x00", api.Kind, []int{0, 1}},
		{"\x01\x04", api.Kind, []int{0, 1}},
		{"\x01\x01", api.Short, []int{0, 2}},
		{"\x01\x01\x01h", api.Short, []int{4}},
		{"\x01\x01\x01h\x00", api.Range, []int{4}},
		{"\x01\x01\x01h\x05", api.Long, []int{4}},
		{"\x01\x01\x01h\x80\x00", api.Form, []int{4}},
		{"\x01\x01\x01h\x01\x05", api.Kind, []int{1, 5}},
		{"\x01\x03\x01e", api.Short, []int{0, 4}},
		{"\x01\x03\x01e\x21" + text(33), api.Long, []int{0, 4}},
		{"\x02\x01\x01h\x04", api.Kind, []int{1, 4}},
		{"\x02\x01\x01h\x02\x01l\x02\x02\x01d\x01\x01p\x04v", api.Short, []int{3, 14}},
	} {
		checkBothErrors(t, x.s, x.code, x.places...)
	}
}

// Whatever stands ahead and behind: places are those of the whole text.
func TestTakeAtEachPlace(t *testing.T) {
	around := []string{"", "\x00", "\x01", "\x04", "\x7f", "\x80", "\xff", overlong[0], beyond[3], "ahead", text(300)}
	for _, x := range rows() {
		for _, ahead := range around {
			for _, behind := range around {
				checkTaken(t, ahead+x.s+behind, len(ahead), x.o, len(ahead)+len(x.s))
			}
			last := items(x.o)[len(items(x.o))-1]
			from := len(ahead) + len(x.s) - len(last.s)
			checkTakeError(t, ahead+x.s[:len(x.s)-len(last.s)], len(ahead), api.Short, last.places(from)...)
		}
	}
	s := text(100)
	for at := range len(s) {
		checkReckoned(t, s, at)
	}
}

func TestTakeAtNoPlace(t *testing.T) {
	s := rows()[0].s
	for _, at := range []int{-1, -2, -len(s), -1 << 31, math.MinInt, len(s) + 1, len(s) + 2, 1 << 31, math.MaxInt} {
		checkTakeError(t, s, at, api.Range, at)
		checkTakeError(t, "", at, api.Range, at)
	}
	checkTakeError(t, s, len(s), api.Short, len(s))
	checkTakeError(t, "", 0, api.Short, 0)
	checkTakeError(t, "", 1, api.Range, 1)
}

// The bytes end ahead of each of an operation's bytes.
func TestTakeCutShort(t *testing.T) {
	for _, o := range someOps(100) {
		l := items(o)
		s, from := join(l), 0
		for _, i := range l {
			for cut := from; cut < from+len(i.s); cut++ {
				checkBothErrors(t, s[:cut], api.Short, i.places(from)...)
				checkTakeError(t, "x"+s[:cut], 1, api.Short, i.places(from+1)...)
			}
			from += len(i.s)
		}
		checkParsed(t, s, o)
	}
}

// Each number and text of an operation is wrong, in each way, whatever stands behind.
func TestTakeOneFlaw(t *testing.T) {
	for _, o := range someOps(40) {
		l := items(o)
		from := 0
		for at, i := range l {
			for _, f := range flaws(i.what) {
				s := join(l[:at]) + f.s
				places := i.places(from)
				checkBothErrors(t, s, f.code, places...)
				checkBothErrors(t, s+join(l[at+1:]), f.code, places...)
				checkBothErrors(t, s+text(300), f.code, places...)
				places[len(places)-1] += 3
				checkTakeError(t, "\x00\xff\x01"+s+join(l[at+1:]), 3, f.code, places...)
			}
			from += len(i.s)
		}
	}
}

// Of two things that are wrong the first one is told.
func TestTakeTwoFlaws(t *testing.T) {
	r := rand.New(rand.NewSource(92))
	for _, o := range []api.Op{everyKind(), fullest()} {
		l := items(o)
		from := 0
		for at, i := range l {
			for _, f := range flaws(i.what) {
				for later := at + 1; later < len(l); later++ {
					others := flaws(l[later].what)
					s := join(l[:at]) + f.s + join(l[at+1:later]) + others[r.Intn(len(others))].s
					checkBothErrors(t, s, f.code, i.places(from)...)
					checkBothErrors(t, s+join(l[later+1:]), f.code, i.places(from)...)
				}
			}
			from += len(i.s)
		}
	}
}

// How many parts are told, and how many there are.
func TestTakeOfEachCount(t *testing.T) {
	const g, s = "\x01\x01h", "\x02\x01d"
	for guards := range 6 {
		for steps := range 6 {
			ahead := num(uint64(guards)) + strings.Repeat(g, guards)
			whole := ahead + num(uint64(steps)) + strings.Repeat(s, steps)
			switch {
			case guards > 4:
				checkBothErrors(t, whole, api.Long, 0)
			case steps > 4:
				checkBothErrors(t, whole, api.Long, len(ahead))
			case steps == 0:
				checkBothErrors(t, whole, api.Range, len(ahead))
			default:
				checkParsed(t, whole, api.Op{Guards: many(guards, api.Guard{Kind: api.Has, Key: "h"}), Steps: many(steps, api.Step{Kind: api.Delete, Key: "d"})})
				checkBothErrors(t, whole[:len(whole)-len(s)], api.Short, guards+steps-1, len(whole)-len(s))
				checkParseError(t, whole+s, api.Long, len(whole))
			}
		}
	}
}

// Each byte where a kind or a number of parts is to stand.
func TestTakeOfEachByte(t *testing.T) {
	for c := range 256 {
		b := string([]byte{byte(c)})
		for _, x := range []string{b, "\x00" + b, "\x00\x01" + b, "\x01" + b, "\x01\x01\x00" + b, "\x01\x01\x00\x01" + b, "\x02\x01\x00" + b, "\x00\x02\x02\x00" + b} {
			for _, behind := range []string{"", "\x00", "\x01", "\x00\x00", "\x00\x01\x02\x00", "\x02\x00", "\x00\x00\x00\x01\x02\x00"} {
				checkReckoned(t, x+behind, 0)
			}
		}
	}
}

func TestParseWithBytesBehind(t *testing.T) {
	for _, o := range someOps(200) {
		s := join(items(o))
		for _, behind := range []string{"\x00", "\x01", "\x80", "\xff", "a", "\n", text(300), s} {
			checkParseError(t, s+behind, api.Long, len(s))
			checkTaken(t, s+behind, 0, o, len(s))
		}
	}
	s := join(items(everyKind()))
	for _, behind := range []string{text(len(longest)), strings.Repeat(s, 5000)} {
		checkParseError(t, s+behind, api.Long, len(s))
		checkBothErrors(t, "\x00\x05"+behind, api.Long, 1)
	}
	checkParseError(t, "", api.Short, 0)
}

// upTo are all texts of at most so many of some bytes.
func upTo(most int, some string) []string {
	l := []string{""}
	from := 0
	for range most {
		to := len(l)
		for _, ahead := range l[from:to] {
			for i := range len(some) {
				l = append(l, ahead+some[i:i+1])
			}
		}
		from = to
	}
	return l
}

// fewBytes are all texts of few bytes, with some ahead that lead further.
func fewBytes() []string {
	l := upTo(6, "\x00\x01\x02\x03\x04\x05\x80")
	for _, ahead := range []string{"\x00\x01", "\x01\x03\x00", "\x02\x01\x00\x02\x01k", "\x01\x03\x00\x00\x02\x03\x01n", "\x00\x01\x04\x00\x00", "\x00\x02\x02\x00", "\x01\x02\x10" + text(16) + "\x01", "\x00\x01\x01\x00\x20" + text(31)} {
		for _, s := range upTo(4, "\x00\x01\x02\x03\x04\x05\x10\x11 !k\x80\xff") {
			l = append(l, ahead+s)
		}
	}
	return l
}

func TestTakeOfFewBytes(t *testing.T) {
	right := 0
	for _, s := range fewBytes() {
		if checkReckoned(t, s, 0) {
			right++
		}
	}
	if right < 1000 {
		t.Errorf("%d operations: too few", right)
	}
}

// changed is a text with some of its bytes changed, left out, or put in.
func changed(r *rand.Rand, s string) string {
	b := []byte(s)
	for range 1 + r.Intn(3) {
		at, c := r.Intn(len(b)+1), byte(r.Intn(256))
		if r.Intn(2) == 0 {
			c %= 6
		}
		switch {
		case r.Intn(3) == 0:
			b = slices.Insert(b, at, c)
		case at == len(b):
		case r.Intn(3) == 0:
			b = slices.Delete(b, at, at+1)
		default:
			b[at] = c
		}
	}
	return string(b)
}

func TestTakeOfChangedBytes(t *testing.T) {
	r := rand.New(rand.NewSource(93))
	right, all := 0, 0
	for _, o := range someOps(2000) {
		s := join(items(o))
		for range 10 {
			other := changed(r, s)
			all++
			if checkReckoned(t, other, 0) {
				right++
			}
			checkReckoned(t, other, r.Intn(len(other)+1))
		}
	}
	if right < 1000 || all-right < 1000 {
		t.Errorf("%d of %d are right: too few of one sort", right, all)
	}
}

// P9.3

func TestBackFromOperations(t *testing.T) {
	for _, o := range someOps(5000) {
		s, err := Print(o)
		if err != nil {
			t.Fatalf("%#v: %v", o, err)
		}
		checkParsed(t, s, o)
		if p, _ := Parse(s); !step.Same(p, o) {
			t.Fatalf("%#v came back as %#v", o, p)
		}
		checkTaken(t, "\xff"+s+"\x80", 1, o, 1+len(s))
	}
}

// What is parsed may be, has just those bytes, and is that of no other text.
func TestBackFromTexts(t *testing.T) {
	r := rand.New(rand.NewSource(94))
	l := fewBytes()
	for _, o := range someOps(2000) {
		s := join(items(o))
		l = append(l, s, changed(r, s), changed(r, s))
	}
	seen := map[string]string{}
	for _, s := range l {
		o, err := Parse(s)
		if err != nil {
			continue
		}
		if !step.Right(o) {
			t.Fatalf("%q: %#v may not be", s, o)
		}
		checkPrinted(t, o, s)
		told := fmt.Sprintf("%#v %#v", slices.Concat(o.Guards, nil), slices.Concat(o.Steps, nil))
		if other, ok := seen[told]; ok && other != s {
			t.Fatalf("%q and %q are both parsed as %s", s, other, told)
		}
		seen[told] = s
	}
	if len(seen) < 3000 {
		t.Errorf("%d operations: too few", len(seen))
	}
}

// One behind the other, operations are taken as they were put.
func TestTakeInARow(t *testing.T) {
	ops := someOps(500)
	var b strings.Builder
	for _, o := range ops {
		s, _ := Print(o)
		b.WriteString(s)
	}
	at := 0
	for _, o := range ops {
		behind := at + len(join(items(o)))
		checkTaken(t, b.String(), at, o, behind)
		at = behind
	}
	checkTakeError(t, b.String(), at, api.Short, at)
}

// What is handed in and out

// roomy is a list with spare room behind it, and that room too.
func roomy[P any](l []P, spare P) (list, whole []P) {
	whole = append(slices.Clone(l), spare, spare, spare)
	return whole[:len(l)], whole
}

func TestNothingHandedInIsChanged(t *testing.T) {
	badGuards, badSteps := wrongParts()
	ops := append(someOps(300), withGuards(badGuards...), ofSteps(badSteps...), api.Op{Guards: badGuards[:2], Steps: badSteps[:2]}, api.Op{})
	for _, o := range ops {
		guards, allGuards := roomy(o.Guards, api.Guard{Kind: 1, Key: "spare"})
		steps, allSteps := roomy(o.Steps, api.Step{Kind: 2, Key: "spare"})
		keptGuards, keptSteps := slices.Clone(allGuards), slices.Clone(allSteps)
		handed := api.Op{Guards: guards, Steps: steps}
		s, _ := Print(handed)
		if !slices.Equal(allGuards, keptGuards) || !slices.Equal(allSteps, keptSteps) {
			t.Fatalf("%#v was changed", o)
		}
		for i := range allGuards {
			allGuards[i] = api.Guard{Kind: 2, Key: "other"}
		}
		for i := range allSteps {
			allSteps[i] = api.Step{Kind: 2, Key: "other"}
		}
		if again, _ := Print(o); again != s {
			t.Fatalf("%#v: %q, and then %q", o, s, again)
		}
	}
}

// Each answer is there as it was, whatever becomes of the others.
func TestNothingIsShared(t *testing.T) {
	for _, o := range someOps(300) {
		s := join(items(o))
		one, _ := Parse(s)
		other, _, _ := Take(s, 0)
		third, _ := Parse(s)
		for i := range other.Guards {
			other.Guards[i] = api.Guard{Kind: 9, Key: "other"}
		}
		for i := range other.Steps {
			other.Steps[i] = api.Step{Kind: 9, Key: "other"}
		}
		_ = append(third.Guards, api.Guard{Kind: 9})
		_ = append(third.Steps, api.Step{Kind: 9})
		if !same(one, o) || !same(third, o) {
			t.Fatalf("%#v is %#v and %#v now", o, one, third)
		}
		checkParsed(t, s, o)
	}
}

// An operation's texts are its own: they stay, whatever becomes of the memory out of which they were read.
func TestTextsAreNewMemory(t *testing.T) {
	for _, o := range someOps(100) {
		b := []byte(join(items(o)))
		one, _, _ := Take(unsafe.String(&b[0], len(b)), 0)
		other, _ := Parse(unsafe.String(&b[0], len(b)))
		for i := range b {
			b[i] ^= 0x55
		}
		if !same(one, o) || !same(other, o) {
			t.Fatalf("%#v is %#v and %#v now", o, one, other)
		}
	}
}

// What was answered before hangs on nothing that is asked later, errors neither.
func TestNothingIsKept(t *testing.T) {
	s, o := rows()[0].s, rows()[0].o
	_, first := Parse(s[:3])
	for range 3 {
		checkParsed(t, s, o)
		checkPrinted(t, o, s)
		checkBothErrors(t, "\x01\x01\x01h\x00", api.Range, 4)
		checkBothErrors(t, "\x00\x02\x02\x00\x09", api.Kind, 1, 4)
		checkBadOp(t, api.Op{})
		checkError(t, "the first Parse", s[:3], 0, first, api.Short, []int{0, 3})
	}
}
