package step

import (
	"maps"
	"math"
	"math/rand"
	"slices"
	"strings"
	"testing"

	"philtre/api"
)

// oddKeys rise: the empty one, beginnings of others, bytes of 0 and of 255, and bytes that are no text in UTF-8.
var oddKeys = []string{
	"", "\x00", "\x00\x00", "\x00\x01", "\x00\xff", "\x01", " ", "-", "10", "9", "A", "a", "a\x00", "a\x00\x00", "a\x01", "aA", "aa", "aaa", "ab", "a\xff", "b", "key", "keys",
	"\x7f", "\x80", "\xbf\xbf", "\xc3", "\xc3\xa4", "\xc3\xff", "\xe2\x82\xac", "\xed\xa0\x80", "\uffff", "\U0001f600", "\xfe", "\xff", "\xff\x00", "\xff\xff", "\xff\xff\xff",
}

// notKinds are numbers that are no guard's kind and no step's, 4 apart, which is a step's.
var notKinds = []int{0, -1, -2, -3, -4, 5, 6, 7, 8, 9, 10, 99, 255, 256, 257, 258, 259, 260, 1<<16 + 1, 1<<32 + 1, 1<<32 + 2, 1<<32 + 3, 1<<32 + 4, math.MinInt + 1, math.MinInt, math.MaxInt}

// lengths are those at which a text is empty, or is as long as a key or a value may be, or longer by one.
var lengths = []int{0, 1, 2, 15, 16, 17, 18, 31, 32, 33, 34, 255, 256, 257, 272, 288, 65536}

var longest = strings.Repeat("\x00\xff\xc3a", 1<<14)

// text is one of that many bytes, of any kind.
func text(length int) string {
	return longest[:length]
}

// limit is how long texts of a part may be: -1 says that there is no such kind.
type limit struct{ value, old int }

func guardLimit(kind int) limit {
	return map[int]limit{1: {0, 0}, 2: {0, 0}, 3: {32, 0}}[kind]
}

func stepLimit(kind int) limit {
	return map[int]limit{1: {32, 0}, 2: {0, 0}, 3: {0, 0}, 4: {32, 32}}[kind]
}

// reckonGuard says whether a guard may be, by a table.
func reckonGuard(g api.Guard) bool {
	return g.Kind >= 1 && g.Kind <= 3 && len(g.Key) <= 16 && len(g.Value) <= guardLimit(g.Kind).value
}

// reckonStep says whether a step may be, by a table.
func reckonStep(s api.Step) bool {
	l := stepLimit(s.Kind)
	return s.Kind >= 1 && s.Kind <= 4 && len(s.Key) <= 16 && len(s.Value) <= l.value && len(s.Old) <= l.old && (s.N == 0 || s.Kind == 3)
}

// rightGuards are guards that may be, at their edges.
func rightGuards() []api.Guard {
	var l []api.Guard
	for _, key := range []string{"", "a", "\xff", text(16)} {
		l = append(l, api.Guard{Kind: api.Has, Key: key}, api.Guard{Kind: api.Lacks, Key: key})
		for _, value := range []string{"", "1", "\x00", text(32)} {
			l = append(l, api.Guard{Kind: api.Equals, Key: key, Value: value})
		}
	}
	return l
}

// wrongGuards are guards that may not be: each is wrong in one way.
func wrongGuards() []api.Guard {
	l := []api.Guard{
		{}, {Kind: 4}, {Kind: 4, Key: "a"}, {Kind: 4, Key: "a", Value: "1"},
		{Kind: api.Has, Key: "a", Value: "1"}, {Kind: api.Has, Value: "\x00"}, {Kind: api.Has, Key: "a", Value: text(32)},
		{Kind: api.Lacks, Key: "a", Value: "1"}, {Kind: api.Lacks, Value: "\x00"}, {Kind: api.Lacks, Key: "a", Value: text(33)},
		{Kind: api.Equals, Key: "a", Value: text(33)}, {Kind: api.Equals, Value: text(65536)},
		{Kind: api.Has, Key: text(17)}, {Kind: api.Lacks, Key: text(17)}, {Kind: api.Equals, Key: text(17)}, {Kind: api.Equals, Key: text(32), Value: text(16)}, {Kind: api.Has, Key: text(65536)},
	}
	for _, kind := range notKinds {
		l = append(l, api.Guard{Kind: kind}, api.Guard{Kind: kind, Key: "a"}, api.Guard{Kind: kind, Key: "a", Value: "1"})
	}
	return l
}

// rightSteps are steps that may be, at their edges.
func rightSteps() []api.Step {
	var l []api.Step
	for _, key := range []string{"", "a", "\xff", text(16)} {
		l = append(l, api.Step{Kind: api.Delete, Key: key})
		for _, n := range []int64{0, 1, -1, math.MaxInt64, math.MinInt64} {
			l = append(l, api.Step{Kind: api.Add, Key: key, N: n})
		}
		for _, value := range []string{"", "1", text(32)} {
			l = append(l, api.Step{Kind: api.Put, Key: key, Value: value})
			for _, old := range []string{"", "1", text(32)} {
				l = append(l, api.Step{Kind: api.Cas, Key: key, Value: value, Old: old})
			}
		}
	}
	return l
}

// wrongSteps are steps that may not be: each is wrong in one way, but those of no kind.
func wrongSteps() []api.Step {
	l := []api.Step{
		{}, {Key: "a"}, {Key: "a", Value: "1"},
		{Kind: api.Put, Key: text(17)}, {Kind: api.Delete, Key: text(17)}, {Kind: api.Add, Key: text(17)}, {Kind: api.Cas, Key: text(17)}, {Kind: api.Put, Key: text(65536)},
		{Kind: api.Put, Key: "a", Value: text(33)}, {Kind: api.Put, Key: "a", Old: "1"}, {Kind: api.Put, Key: "a", Value: "1", Old: "\x00"}, {Kind: api.Put, Key: "a", Value: "1", Old: text(32)},
		{Kind: api.Delete, Key: "a", Value: "1"}, {Kind: api.Delete, Key: "a", Value: "\x00"}, {Kind: api.Delete, Key: "a", Value: text(32)}, {Kind: api.Delete, Key: "a", Old: "1"}, {Kind: api.Delete, Key: "a", Old: text(32)},
		{Kind: api.Add, Key: "a", Value: "1"}, {Kind: api.Add, Key: "a", Value: "1", N: 1}, {Kind: api.Add, Key: "a", Old: "1"}, {Kind: api.Add, Key: "a", Old: "1", N: -1}, {Kind: api.Add, Value: text(32), N: 5},
		{Kind: api.Cas, Key: "a", Value: text(33)}, {Kind: api.Cas, Key: "a", Old: text(33)}, {Kind: api.Cas, Key: "a", Value: text(33), Old: text(33)}, {Kind: api.Cas, Value: text(32), Old: text(33)}, {Kind: api.Cas, Value: text(33), Old: text(32)},
	}
	for _, n := range []int64{1, -1, 256, 1 << 32, math.MaxInt64, math.MinInt64} {
		l = append(l, api.Step{Kind: api.Put, Key: "a", Value: "1", N: n}, api.Step{Kind: api.Delete, Key: "a", N: n}, api.Step{Kind: api.Cas, Key: "a", Value: "1", Old: "0", N: n}, api.Step{Kind: api.Cas, N: n})
	}
	for _, kind := range notKinds {
		l = append(l, api.Step{Kind: kind}, api.Step{Kind: kind, Key: "a"}, api.Step{Kind: kind, Key: "a", Value: "1"}, api.Step{Kind: kind, Key: "a", N: 1}, api.Step{Kind: kind, Key: "a", Value: "1", Old: "0"})
	}
	return l
}

func clone(o api.Op) api.Op {
	return api.Op{Guards: slices.Clone(o.Guards), Steps: slices.Clone(o.Steps)}
}

// reckonKeys is the keys of some guards and steps, by a map of Go's.
func reckonKeys(guards []api.Guard, steps []api.Step) []string {
	keys := map[string]bool{}
	for _, g := range guards {
		keys[g.Key] = true
	}
	for _, s := range steps {
		keys[s.Key] = true
	}
	return slices.Sorted(maps.Keys(keys))
}

func randomGuard(r *rand.Rand) api.Guard {
	if r.Intn(20) == 0 {
		return wrongGuards()[r.Intn(len(wrongGuards()))]
	}
	return rightGuards()[r.Intn(len(rightGuards()))]
}

func randomStep(r *rand.Rand) api.Step {
	if r.Intn(20) == 0 {
		return wrongSteps()[r.Intn(len(wrongSteps()))]
	}
	return rightSteps()[r.Intn(len(rightSteps()))]
}

// randomOp is one that may be, more often than not.
func randomOp(r *rand.Rand) api.Op {
	var o api.Op
	for range r.Intn(6) {
		o.Guards = append(o.Guards, randomGuard(r))
	}
	for range r.Intn(6) {
		o.Steps = append(o.Steps, randomStep(r))
	}
	return o
}

func checkKeys(t *testing.T, keys, want []string) {
	t.Helper()
	if !slices.Equal(keys, want) {
		t.Fatalf("%q, not %q", keys, want)
	}
}

// P8.1

func TestRightGuard(t *testing.T) {
	for _, g := range rightGuards() {
		if !RightGuard(g) {
			t.Errorf("%v may be", g)
		}
	}
	for _, g := range wrongGuards() {
		if RightGuard(g) {
			t.Errorf("%d %q %q may not be", g.Kind, g.Key, g.Value)
		}
	}
}

func TestRightGuardOfEachLength(t *testing.T) {
	for _, kind := range append([]int{1, 2, 3, 4}, notKinds...) {
		for _, key := range lengths {
			for _, value := range lengths {
				g := api.Guard{Kind: kind, Key: text(key), Value: text(value)}
				if is := RightGuard(g); is != reckonGuard(g) {
					t.Fatalf("kind %d, a key of %d, a value of %d: %v", kind, key, value, is)
				}
			}
		}
	}
}

// What a key is made of is of no matter.
func TestRightOfOddKeys(t *testing.T) {
	for _, key := range oddKeys {
		for _, value := range oddKeys {
			for _, g := range []api.Guard{{Kind: api.Has, Key: key}, {Kind: api.Lacks, Key: key}, {Kind: api.Equals, Key: key, Value: value}} {
				if !RightGuard(g) {
					t.Fatalf("%v may be", g)
				}
			}
			for _, s := range []api.Step{{Kind: api.Put, Key: key, Value: value}, {Kind: api.Delete, Key: key}, {Kind: api.Add, Key: key, N: 7}, {Kind: api.Cas, Key: key, Value: value, Old: value}} {
				if !RightStep(s) {
					t.Fatalf("%v may be", s)
				}
			}
		}
	}
}

func TestRightStep(t *testing.T) {
	for _, s := range rightSteps() {
		if !RightStep(s) {
			t.Errorf("%v may be", s)
		}
	}
	for _, s := range wrongSteps() {
		if RightStep(s) {
			t.Errorf("%d %q %q %q %d may not be", s.Kind, s.Key, s.Value, s.Old, s.N)
		}
	}
}

func TestRightStepOfEachLength(t *testing.T) {
	for _, kind := range append([]int{1, 2, 3, 4}, notKinds...) {
		for _, key := range []int{0, 1, 16, 17, 32, 272} {
			for _, value := range lengths {
				for _, old := range lengths {
					for _, n := range []int64{0, 1, -1, 1 << 32, math.MaxInt64, math.MinInt64} {
						s := api.Step{Kind: kind, Key: text(key), Value: text(value), Old: text(old), N: n}
						if is := RightStep(s); is != reckonStep(s) {
							t.Fatalf("kind %d, a key of %d, a value of %d, an old one of %d, n %d: %v", kind, key, value, old, n, is)
						}
					}
				}
			}
		}
	}
}

// The chapter's own example.
func TestExample(t *testing.T) {
	s := api.Step{Kind: api.Add, Key: "n", N: 5}
	if !RightStep(s) || !Right(api.Op{Steps: []api.Step{s}}) {
		t.Error("Add of 5 to n may be")
	}
	s.Value = "5"
	if RightStep(s) || Right(api.Op{Steps: []api.Step{s}}) {
		t.Error("with a value it may not")
	}
}

// many is a list of that many, of the same one.
func many[P any](n int, p P) []P {
	return slices.Repeat([]P{p}, n)
}

func TestRightOfEachCount(t *testing.T) {
	g, s := api.Guard{Kind: api.Equals, Key: "a", Value: "1"}, api.Step{Kind: api.Add, Key: "n", N: 5}
	for _, guards := range []int{0, 1, 2, 3, 4, 5, 6, 255, 256, 257, 260} {
		for _, steps := range []int{0, 1, 2, 3, 4, 5, 6, 255, 256, 257, 260} {
			if is := Right(api.Op{Guards: many(guards, g), Steps: many(steps, s)}); is != (guards <= 4 && steps >= 1 && steps <= 4) {
				t.Errorf("%d guards, %d steps: %v", guards, steps, is)
			}
		}
	}
}

func TestRightOfNoParts(t *testing.T) {
	steps := many(1, api.Step{Kind: api.Delete})
	for _, guards := range [][]api.Guard{nil, {}} {
		if !Right(api.Op{Guards: guards, Steps: steps}) {
			t.Error("one without guards may be")
		}
		for _, none := range [][]api.Step{nil, {}} {
			if Right(api.Op{Guards: guards, Steps: none}) || Right(api.Op{Guards: rightGuards()[:1], Steps: none}) {
				t.Error("one without steps may not be")
			}
		}
	}
}

// Guards are no steps, and steps no guards: what stands in one list is not made good by what stands in the other.
func TestRightWithOneWrongPart(t *testing.T) {
	guards, steps := rightGuards()[:4], rightSteps()[:4]
	for count := 1; count <= 4; count++ {
		for at := range count {
			for _, g := range wrongGuards() {
				o := clone(api.Op{Guards: guards[:count], Steps: steps})
				if o.Guards[at] = g; Right(o) {
					t.Fatalf("guard %d of %d may not be: %v", at, count, g)
				}
			}
			for _, s := range wrongSteps() {
				o := clone(api.Op{Guards: guards, Steps: steps[:count]})
				if o.Steps[at] = s; Right(o) {
					t.Fatalf("step %d of %d may not be: %v", at, count, s)
				}
			}
			if !Right(api.Op{Guards: guards[:count], Steps: steps}) || !Right(api.Op{Guards: guards, Steps: steps[:count]}) {
				t.Fatalf("%d parts that may be", count)
			}
		}
	}
}

func TestSame(t *testing.T) {
	g, h := api.Guard{Kind: api.Has, Key: "a"}, api.Guard{Kind: api.Equals, Key: "b", Value: "1"}
	s, u := api.Step{Kind: api.Put, Key: "a", Value: "1"}, api.Step{Kind: api.Add, Key: "n", N: 5}
	whole := api.Op{Guards: []api.Guard{g, h}, Steps: []api.Step{s, u}}
	others := []api.Op{
		{}, {Guards: []api.Guard{g, h}}, {Steps: []api.Step{s, u}},
		{Guards: []api.Guard{g}, Steps: []api.Step{s, u}}, {Guards: []api.Guard{h}, Steps: []api.Step{s, u}}, {Guards: []api.Guard{g, h}, Steps: []api.Step{s}}, {Guards: []api.Guard{g, h}, Steps: []api.Step{u}},
		{Guards: []api.Guard{g, h, h}, Steps: []api.Step{s, u}}, {Guards: []api.Guard{g, g, h}, Steps: []api.Step{s, u}}, {Guards: []api.Guard{g, h}, Steps: []api.Step{s, u, u}}, {Guards: []api.Guard{g, h}, Steps: []api.Step{s, s, u}},
		{Guards: []api.Guard{h, g}, Steps: []api.Step{s, u}}, {Guards: []api.Guard{g, h}, Steps: []api.Step{u, s}}, {Guards: []api.Guard{h, g}, Steps: []api.Step{u, s}},
		{Guards: []api.Guard{g, g}, Steps: []api.Step{s, u}}, {Guards: []api.Guard{h, h}, Steps: []api.Step{s, u}}, {Guards: []api.Guard{g, h}, Steps: []api.Step{s, s}}, {Guards: []api.Guard{g, h}, Steps: []api.Step{u, u}},
		{Guards: []api.Guard{g, h, {}}, Steps: []api.Step{s, u}}, {Guards: []api.Guard{g, h}, Steps: []api.Step{s, u, {}}},
	}
	if !Same(whole, whole) || !Same(whole, clone(whole)) || !Same(clone(whole), whole) {
		t.Error("each is the same as itself")
	}
	for i, o := range others {
		if Same(whole, o) || Same(o, whole) {
			t.Errorf("%v is another one", o)
		}
		for j, other := range others {
			if Same(o, clone(other)) != (i == j) {
				t.Errorf("%v and %v: %v", o, other, i != j)
			}
		}
	}
}

func TestSameOfNoParts(t *testing.T) {
	for _, a := range []api.Op{{}, {Guards: []api.Guard{}}, {Steps: []api.Step{}}, {Guards: []api.Guard{}, Steps: []api.Step{}}, {Guards: make([]api.Guard, 0, 3), Steps: rightSteps()[:0]}} {
		for _, b := range []api.Op{{}, {Guards: []api.Guard{}}, {Steps: []api.Step{}}, {Guards: []api.Guard{}, Steps: []api.Step{}}, {Guards: rightGuards()[:0], Steps: make([]api.Step, 0, 3)}} {
			if !Same(a, b) {
				t.Errorf("%v and %v have the same parts: none", a, b)
			}
			a, b := clone(a), clone(b)
			a.Steps, b.Steps = rightSteps()[:1], rightSteps()[:1]
			if !Same(a, b) {
				t.Errorf("%v and %v have the same parts", a, b)
			}
			b.Guards = rightGuards()[:1]
			if Same(a, b) || Same(b, a) {
				t.Errorf("%v has no guard, and %v has", a, b)
			}
		}
	}
}

// otherGuards are unlike g in one field each.
func otherGuards(g api.Guard) []api.Guard {
	kind, key, longer, value, valued := g, g, g, g, g
	kind.Kind ^= 1
	key.Key = "other"
	longer.Key += "\x00"
	value.Value = "other"
	valued.Value += "\x00"
	return []api.Guard{kind, key, longer, value, valued}
}

// otherSteps are unlike s in one field each.
func otherSteps(s api.Step) []api.Step {
	kind, key, longer, value, old, aged, n, high := s, s, s, s, s, s, s, s
	kind.Kind ^= 1
	key.Key = "other"
	longer.Key += "\x00"
	value.Value += "\x00"
	old.Old = "other"
	aged.Old += "\x00"
	n.N ^= 1
	high.N ^= math.MinInt64
	return []api.Step{kind, key, longer, value, old, aged, n, high}
}

func TestSameUnlikeInOneField(t *testing.T) {
	o := api.Op{Guards: append(rightGuards()[:4], wrongGuards()[:3]...), Steps: append(rightSteps()[:8], wrongSteps()[:3]...)}
	for i, g := range o.Guards {
		for _, other := range otherGuards(g) {
			p := clone(o)
			if p.Guards[i] = other; Same(o, p) || Same(p, o) {
				t.Errorf("guard %d: %v is not %v", i, other, g)
			}
		}
	}
	for i, s := range o.Steps {
		for _, other := range otherSteps(s) {
			p := clone(o)
			if p.Steps[i] = other; Same(o, p) || Same(p, o) {
				t.Errorf("step %d: %v is not %v", i, other, s)
			}
		}
	}
	if !Same(o, clone(o)) {
		t.Error("whether they may be is not asked")
	}
}

// P8.2

func guardsOf(keys ...string) []api.Guard {
	var l []api.Guard
	for i, key := range keys {
		l = append(l, api.Guard{Kind: 1 + i%3, Key: key, Value: "value"})
	}
	return l
}

func stepsOf(keys ...string) []api.Step {
	var l []api.Step
	for i, key := range keys {
		l = append(l, api.Step{Kind: 1 + i%4, Key: key, Value: "value", Old: "old"})
	}
	return l
}

func keys(l ...string) []string { return l }

func TestKeysAndWrites(t *testing.T) {
	for _, c := range []struct{ guards, steps, keys, writes []string }{
		{nil, nil, nil, nil},
		{keys("a"), nil, keys("a"), nil},
		{nil, keys("a"), keys("a"), keys("a")},
		{keys("a"), keys("a"), keys("a"), keys("a")},
		{keys("a"), keys("b"), keys("a", "b"), keys("b")},
		{keys("b"), keys("a"), keys("a", "b"), keys("a")},
		{keys(""), keys("a"), keys("", "a"), keys("a")},
		{keys("a"), keys(""), keys("", "a"), keys("")},
		{keys(""), keys(""), keys(""), keys("")},
		{keys("a", "a", "a"), nil, keys("a"), nil},
		{nil, keys("a", "a", "a"), keys("a"), keys("a")},
		{keys("a", "b", "a"), keys("b", "a", "b"), keys("a", "b"), keys("a", "b")},
		{keys("d", "b"), keys("c", "a"), keys("a", "b", "c", "d"), keys("a", "c")},
		{keys("c", "a", "b"), keys("d", "b", "c", "d"), keys("a", "b", "c", "d"), keys("b", "c", "d")},
		{keys("ab", "a", "a\x00"), keys("aa", "", "abc"), keys("", "a", "a\x00", "aa", "ab", "abc"), keys("", "aa", "abc")},
		{keys("10", "9"), keys("A", "a", "B"), keys("10", "9", "A", "B", "a"), keys("A", "B", "a")},
		{keys("\xff", "\x80", "z"), keys("\x00", "\xc3\xa4", "\xff\x00"), keys("\x00", "z", "\x80", "\xc3\xa4", "\xff", "\xff\x00"), keys("\x00", "\xc3\xa4", "\xff\x00")},
		{keys("\xed\xa0\x80", "\xbf"), keys("\xbf", "\ufffd"), keys("\xbf", "\xed\xa0\x80", "\ufffd"), keys("\xbf", "\ufffd")},
		{keys("e", "d", "c", "b", "a"), keys("j", "i", "h", "g", "f"), keys("a", "b", "c", "d", "e", "f", "g", "h", "i", "j"), keys("f", "g", "h", "i", "j")},
		{keys(text(17), text(16)), keys(text(300), text(17)), keys(text(16), text(17), text(300)), keys(text(17), text(300))},
	} {
		o := api.Op{Guards: guardsOf(c.guards...), Steps: stepsOf(c.steps...)}
		checkKeys(t, Keys(o), c.keys)
		checkKeys(t, Writes(o), c.writes)
	}
	for _, o := range []api.Op{{}, {Guards: []api.Guard{}}, {Steps: []api.Step{}}, {Guards: []api.Guard{}, Steps: []api.Step{}}} {
		checkKeys(t, Keys(o), nil)
		checkKeys(t, Writes(o), nil)
	}
}

// Each two of the odd keys, wherever they stand.
func TestKeysOfTwo(t *testing.T) {
	for i, one := range oddKeys {
		for j, other := range oddKeys {
			both := oddKeys[min(i, j) : min(i, j)+1 : min(i, j)+1]
			if i != j {
				both = append(both, oddKeys[max(i, j)])
			}
			steps := api.Op{Steps: stepsOf(one, other)}
			checkKeys(t, Keys(steps), both)
			checkKeys(t, Writes(steps), both)
			guards := api.Op{Guards: guardsOf(one, other)}
			checkKeys(t, Keys(guards), both)
			checkKeys(t, Writes(guards), nil)
			mixed := api.Op{Guards: guardsOf(one), Steps: stepsOf(other)}
			checkKeys(t, Keys(mixed), both)
			checkKeys(t, Writes(mixed), keys(other))
		}
	}
}

// Whether an operation may be is not asked.
func TestKeysOfWrongOps(t *testing.T) {
	for _, g := range wrongGuards() {
		o := api.Op{Guards: []api.Guard{g}}
		checkKeys(t, Keys(o), keys(g.Key))
		checkKeys(t, Writes(o), nil)
	}
	for _, s := range wrongSteps() {
		o := api.Op{Steps: []api.Step{s}}
		checkKeys(t, Keys(o), keys(s.Key))
		checkKeys(t, Writes(o), keys(s.Key))
	}
	// All of the odd keys, from the last one on, and again.
	falling := slices.Concat(oddKeys, oddKeys)
	slices.Reverse(falling)
	o := api.Op{Guards: guardsOf(falling...), Steps: stepsOf(falling...)}
	checkKeys(t, Keys(o), oddKeys)
	checkKeys(t, Writes(o), oddKeys)
	checkKeys(t, Keys(api.Op{Guards: guardsOf(falling...)}), oddKeys)
}

// Of very many keys, in whatever order they stand, none is lost.
func TestKeysOfMany(t *testing.T) {
	r := rand.New(rand.NewSource(81))
	var o api.Op
	for i := range 100000 {
		o.Guards = append(o.Guards, api.Guard{Kind: api.Has, Key: text(i%20) + strings.Repeat("k", i%7)})
		o.Steps = append(o.Steps, api.Step{Kind: api.Delete, Key: string([]byte{byte(r.Intn(256)), byte(r.Intn(256)), byte(i), byte(i >> 8), byte(i >> 16)})})
	}
	checkKeys(t, Keys(o), reckonKeys(o.Guards, o.Steps))
	checkKeys(t, Writes(o), reckonKeys(nil, o.Steps))
}

// P8.3

// An operation may be as its parts may, has the keys that they have, and is the same as another one as they are.
func TestParts(t *testing.T) {
	r := rand.New(rand.NewSource(83))
	ops := []api.Op{{}, {Steps: []api.Step{{Kind: api.Add, Key: "n", N: 5}}}, {Steps: []api.Step{{Kind: api.Add, Key: "n", N: 5, Value: "5"}}}}
	for range 3000 {
		ops = append(ops, randomOp(r))
	}
	right := 0
	for _, o := range ops {
		may := len(o.Guards) <= api.MaxGuards && len(o.Steps) >= 1 && len(o.Steps) <= api.MaxSteps
		for _, g := range o.Guards {
			may = may && RightGuard(g) && reckonGuard(g)
		}
		for _, s := range o.Steps {
			may = may && RightStep(s) && reckonStep(s)
		}
		if Right(o) != may {
			t.Fatalf("%v: %v", o, !may)
		}
		if may {
			right++
		}
		checkKeys(t, Keys(o), reckonKeys(o.Guards, o.Steps))
		checkKeys(t, Writes(o), reckonKeys(nil, o.Steps))
		checkSame(t, r, o)
	}
	if right < 500 || len(ops)-right < 500 {
		t.Errorf("%d of %d may be: too few of one sort", right, len(ops))
	}
}

// checkSame holds an operation against itself, and against one that lacks a part or has another one there.
func checkSame(t *testing.T, r *rand.Rand, o api.Op) {
	t.Helper()
	if !Same(o, clone(o)) {
		t.Fatalf("%v is the same as itself", o)
	}
	other := clone(o)
	if at := r.Intn(len(o.Guards) + 1); at < len(o.Guards) {
		other.Guards = slices.Delete(other.Guards, at, at+1)
	} else {
		other.Guards = append(other.Guards, randomGuard(r))
	}
	if Same(o, other) || Same(other, o) {
		t.Fatalf("%v and %v have other guards", o, other)
	}
	other = clone(o)
	if at := r.Intn(len(o.Steps) + 1); at < len(o.Steps) {
		l := otherSteps(o.Steps[at])
		other.Steps[at] = l[r.Intn(len(l))]
	} else {
		other.Steps = append(other.Steps, randomStep(r))
	}
	if Same(o, other) || Same(other, o) {
		t.Fatalf("%v and %v have other steps", o, other)
	}
}

// What is handed in and out

// roomy is a list with spare room behind it, and that room too.
func roomy[P any](l []P, spare P) (list, whole []P) {
	whole = append(slices.Clone(l), spare, spare, spare)
	return whole[:len(l)], whole
}

func TestNothingHandedInIsChanged(t *testing.T) {
	r := rand.New(rand.NewSource(84))
	for range 500 {
		o := randomOp(r)
		guards, allGuards := roomy(o.Guards, api.Guard{Kind: 9, Key: "spare"})
		steps, allSteps := roomy(o.Steps, api.Step{Kind: 9, Key: "spare"})
		handed, other := api.Op{Guards: guards, Steps: steps}, clone(o)
		keptGuards, keptSteps := slices.Clone(allGuards), slices.Clone(allSteps)
		Right(handed)
		Same(handed, other)
		Same(other, handed)
		Keys(handed)
		Writes(handed)
		for _, g := range guards {
			RightGuard(g)
		}
		for _, s := range steps {
			RightStep(s)
		}
		if !slices.Equal(allGuards, keptGuards) || !slices.Equal(allSteps, keptSteps) || !Same(other, o) {
			t.Fatalf("%v was changed", o)
		}
	}
}

// Each answer is there as it was, whatever becomes of what was handed in, and of the others.
func TestNothingIsShared(t *testing.T) {
	r := rand.New(rand.NewSource(85))
	for range 300 {
		o := randomOp(r)
		all, writes := reckonKeys(o.Guards, o.Steps), reckonKeys(nil, o.Steps)
		one, again, written := Keys(o), Keys(o), Writes(o)
		for i := range o.Guards {
			o.Guards[i].Key = "other"
		}
		for i := range o.Steps {
			o.Steps[i].Key = "other"
		}
		for i := range again {
			again[i] += "!"
		}
		checkKeys(t, one, all)
		checkKeys(t, written, writes)
		for i := range one {
			one[i] += "?"
		}
		checkKeys(t, written, writes)
		if len(o.Guards)+len(o.Steps) > 0 {
			checkKeys(t, Keys(o), keys("other"))
		}
	}
}

// What was answered before hangs on nothing that is asked later.
func TestNothingIsKept(t *testing.T) {
	o := api.Op{Guards: guardsOf("b", "a"), Steps: stepsOf("c", "b")}
	for range 3 {
		checkKeys(t, Keys(o), keys("a", "b", "c"))
		checkKeys(t, Writes(o), keys("b", "c"))
		checkKeys(t, Keys(api.Op{Guards: guardsOf("x")}), keys("x"))
		checkKeys(t, Writes(api.Op{Guards: guardsOf("x")}), nil)
		checkKeys(t, Keys(api.Op{}), nil)
	}
	o.Guards[0].Key, o.Steps[1].Key = "d", "a"
	checkKeys(t, Keys(o), keys("a", "c", "d"))
	checkKeys(t, Writes(o), keys("a", "c"))
}
