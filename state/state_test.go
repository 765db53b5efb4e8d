package state

import (
	"maps"
	"math/rand"
	"slices"
	"strings"
	"testing"

	"philtre/api"
)

// oddKeys rise: the empty one, beginnings of others, bytes of 0 and of 255, and bytes that are no text in UTF-8.
var oddKeys = []string{
	"", "\x00", "\x00\x00", "\x00\x01", "\x00\xff", "\x01", " ", "-", "10", "9", "A", "a", "a\x00", "a\x00\x00", "a\x01", "aA", "aa", "aaa", "ab", "a\xff", "b", "key", "keys",
	"\x7f", "\x80", "\xbf\xbf", "\xc3", "\xc3\xa4", "\xc3\xff", "\xe2\x82\xac", "\xed\xa0\x80", "\uffff", "\U0001f600", "\xfe", "\xff", "\xff\x00", "\xff\xff", "\xff\xff\xff",
}

// oddValues are texts of any kind: the empty one, one as long as a value may be, and a longer one.
func oddValues() []string {
	return []string{"", "v", "w", "\x00", "\xff", "0", "-1", "\xc3\xa4", "\xed\xa0\x80", strings.Repeat("v", api.MaxValue), strings.Repeat("w", 40*api.MaxValue)}
}

// row makes a row of keys and their values, in turn.
func row(texts ...string) []api.Pair {
	var m []api.Pair
	for i := 0; i < len(texts); i += 2 {
		m = append(m, api.Pair{Key: texts[i], Value: texts[i+1]})
	}
	return m
}

func has(key, value string) api.Change { return api.Change{Key: key, Has: true, Value: value} }

func lacks(key string) api.Change { return api.Change{Key: key} }

// valued is a change to none that has a value all the same.
func valued(key, value string) api.Change { return api.Change{Key: key, Value: value} }

func list(l ...api.Change) []api.Change { return l }

// notStates are rows whose keys don't rise strictly, wherever that is.
func notStates() [][]api.Pair {
	l := [][]api.Pair{
		row("a", "1", "a", "1"), row("a", "1", "a", "2"), row("a", "2", "a", "1"), row("", "", "", ""), row("", "", "", "1"),
		row("b", "1", "a", "1"), row("ab", "1", "a", "1"), row("a\x00", "1", "a", "1"), row("a", "1", "", "1"), row("\xff", "1", "\xc3\xa4", "1"), row("\x80", "1", "z", "1"), row("\xff", "", "\x00", ""), row("9", "1", "10", "2"),
		row("a", "1", "b", "2", "b", "2"), row("a", "1", "a", "1", "b", "2"), row("a", "1", "c", "2", "b", "3"), row("b", "1", "a", "2", "c", "3"), row("c", "1", "a", "2", "b", "3"), row("a", "1", "b", "2", "a", "3"),
	}
	for i := 1; i < len(oddKeys); i++ {
		m := make([]api.Pair, len(oddKeys))
		for j, key := range oddKeys {
			m[j] = api.Pair{Key: key, Value: key}
		}
		same, falls := slices.Clone(m), slices.Clone(m)
		same[i].Key = same[i-1].Key
		falls[i], falls[i-1] = falls[i-1], falls[i]
		l = append(l, same, falls)
	}
	return l
}

// states are rows whose keys rise strictly.
func states() [][]api.Pair {
	l := [][]api.Pair{
		nil, {}, row("", ""), row("", "1"), row("a", ""), row("a", "1"), row("a", "2"), row("b", "1"), row("a", "1", "b", "1"), row("a", "1", "b", "2"), row("a", "2", "b", "1"),
		row("", "", "a", ""), row("", "1", "\x00", "1"), row("a", "1", "a\x00", "2"), row("a", "1", "aa", "2"), row("a", "1", "ab", "2", "b", "3"), row("A", "1", "a", "1"), row("10", "1", "9", "2"),
		row("\x00", "\x00", "\xff", "\xff"), row("z", "1", "\x80", "2"), row("\xc3\xa4", "1", "\xff", "2"), row("\xed\xa0\x80", "\xed\xa0\x80"), row("b", "3", "d", "4", "f", "5"), row("a", "1", "b", "2", "c", "3", "d", "4"),
	}
	whole, odd := []api.Pair(nil), []api.Pair(nil)
	for i, key := range oddKeys {
		whole = append(whole, api.Pair{Key: key, Value: oddValues()[i%len(oddValues())]})
		if i%2 == 1 {
			odd = append(odd, api.Pair{Key: key, Value: "v"})
		}
	}
	return append(l, whole, odd)
}

// reckoned is a row as a map of Go's.
func reckoned(m []api.Pair) map[string]string {
	values := map[string]string{}
	for _, p := range m {
		values[p.Key] = p.Value
	}
	return values
}

// inOrder is a map of Go's as a row.
func inOrder(values map[string]string) []api.Pair {
	var m []api.Pair
	for _, key := range slices.Sorted(maps.Keys(values)) {
		m = append(m, api.Pair{Key: key, Value: values[key]})
	}
	return m
}

// reckonPatch does the changes on a map of Go's.
func reckonPatch(m []api.Pair, l []api.Change) []api.Pair {
	values := reckoned(m)
	for _, c := range l {
		delete(values, c.Key)
		if c.Has {
			values[c.Key] = c.Value
		}
	}
	return inOrder(values)
}

// reckonDiff holds two maps of Go's against each other.
func reckonDiff(a, b []api.Pair) []api.Change {
	was, is := reckoned(a), reckoned(b)
	keys := map[string]bool{}
	for _, p := range slices.Concat(a, b) {
		keys[p.Key] = true
	}
	var l []api.Change
	for _, key := range slices.Sorted(maps.Keys(keys)) {
		before, had := was[key]
		value, has := is[key]
		if had != has || before != value {
			l = append(l, api.Change{Key: key, Has: has, Value: value})
		}
	}
	return l
}

// randomKey is one of few, so that many come again.
func randomKey(r *rand.Rand) string {
	b := make([]byte, r.Intn(3))
	for i := range b {
		b[i] = []byte{0, 'a', 'b', 255}[r.Intn(4)]
	}
	return string(b)
}

func randomState(r *rand.Rand) []api.Pair {
	values := map[string]string{}
	for range r.Intn(12) {
		values[randomKey(r)] = oddValues()[r.Intn(3)]
	}
	return inOrder(values)
}

func randomChanges(r *rand.Rand) []api.Change {
	var l []api.Change
	for range r.Intn(12) {
		l = append(l, api.Change{Key: randomKey(r), Has: r.Intn(2) == 0, Value: oddValues()[r.Intn(3)]})
	}
	return l
}

// manyStates are those above, and others put together by chance.
func manyStates(seed int64) [][]api.Pair {
	r, l := rand.New(rand.NewSource(seed)), states()
	for range 60 {
		l = append(l, randomState(r))
	}
	return l
}

func checkRow(t *testing.T, m, want []api.Pair) {
	t.Helper()
	if !slices.Equal(m, want) {
		t.Fatalf("%q, not %q", m, want)
	}
}

func checkChanges(t *testing.T, l, want []api.Change) {
	t.Helper()
	if !slices.Equal(l, want) {
		t.Fatalf("%v, not %v", l, want)
	}
}

// P7.1

func TestRight(t *testing.T) {
	for _, m := range states() {
		if !Right(m) {
			t.Errorf("%q is a state", m)
		}
	}
	for _, m := range notStates() {
		if Right(m) {
			t.Errorf("%q is no state", m)
		}
	}
}

// One pair is a state, whatever it is; two are, if the first one's key is ahead.
func TestRightOfTwo(t *testing.T) {
	for i, one := range oddKeys {
		for _, value := range oddValues() {
			if !Right(row(one, value)) {
				t.Fatalf("%q with %q is a state", one, value)
			}
		}
		for j, other := range oddKeys {
			for _, values := range [][2]string{{"", ""}, {"1", "1"}, {"1", "2"}, {"2", "1"}, {"", "1"}, {"1", ""}} {
				if is := Right(row(one, values[0], other, values[1])); is != (i < j) {
					t.Fatalf("%q, %q: %v", one, other, is)
				}
			}
		}
	}
}

func TestGet(t *testing.T) {
	m := row("", "nothing", "a", "1", "a\x00", "", "ab", "2", "b", "1", "\xff", "\xff\x00")
	for _, p := range m {
		if value, is := Get(m, p.Key); !is || value != p.Value {
			t.Errorf("of %q: %q, %v", p.Key, value, is)
		}
	}
	for _, key := range []string{"\x00", "A", "a\x00\x00", "a\x01", "aa", "abc", "bb", "c", "1", "2", "nothing", "\xfe", "\xff\x00", "\xff\xff", "lacks"} {
		if value, is := Get(m, key); is || value != "" {
			t.Errorf("of %q, which has none: %q, %v", key, value, is)
		}
	}
}

func TestGetOfEach(t *testing.T) {
	for _, m := range manyStates(71) {
		values := reckoned(m)
		for _, key := range oddKeys {
			wanted, has := values[key]
			if value, is := Get(m, key); is != has || value != wanted {
				t.Fatalf("of %q in %q: %q, %v", key, m, value, is)
			}
		}
	}
}

// A row that is no state is asked none the less, from its first pair on.
func TestGetOfNoState(t *testing.T) {
	for _, c := range []struct {
		m     []api.Pair
		key   string
		value string
		is    bool
	}{
		{row("a", "1", "a", "2"), "a", "1", true},
		{row("a", "", "a", "2"), "a", "", true},
		{row("", "", "", "2"), "", "", true},
		{row("c", "1", "b", "2", "a", "3"), "a", "3", true},
		{row("c", "1", "b", "2", "a", "3"), "b", "2", true},
		{row("c", "1", "b", "2", "a", "3"), "c", "1", true},
		{row("c", "1", "b", "2", "a", "3"), "d", "", false},
		{row("c", "1", "b", "2", "a", "3"), "", "", false},
		{row("b", "1", "a", "2", "c", "3", "a", "4", "b", "5"), "a", "2", true},
		{row("b", "1", "a", "2", "c", "3", "a", "4", "b", "5"), "b", "1", true},
		{row("b", "1", "a", "2", "c", "3", "a", "4", "b", "5"), "c", "3", true},
		{row("b", "1", "a", "2", "c", "3", "a", "4", "b", "5"), "bb", "", false},
	} {
		if value, is := Get(c.m, c.key); is != c.is || value != c.value {
			t.Errorf("of %q in %q: %q, %v", c.key, c.m, value, is)
		}
	}
	for _, m := range notStates() {
		for _, key := range append(slices.Clone(oddKeys), "lacks") {
			at := slices.IndexFunc(m, func(p api.Pair) bool { return p.Key == key })
			value, is := Get(m, key)
			if at < 0 && (is || value != "") || at >= 0 && (!is || value != m[at].Value) {
				t.Fatalf("of %q in %q: %q, %v", key, m, value, is)
			}
		}
	}
}

// P7.2

func TestDiff(t *testing.T) {
	for _, c := range []struct {
		a, b []api.Pair
		want []api.Change
	}{
		{nil, nil, nil},
		{[]api.Pair{}, nil, nil},
		{row("a", "1"), row("a", "1"), nil},
		{row("a", ""), row("a", ""), nil},
		{row("a", "1", "b", "2"), row("a", "1", "b", "2"), nil},
		{row("a", "1"), nil, list(lacks("a"))},
		{nil, row("a", "1"), list(has("a", "1"))},
		{row("", ""), nil, list(lacks(""))},
		{nil, row("", ""), list(has("", ""))},
		{row("a", ""), nil, list(lacks("a"))},
		{nil, row("a", ""), list(has("a", ""))},
		{row("a", "1"), row("a", "2"), list(has("a", "2"))},
		{row("a", "1"), row("a", ""), list(has("a", ""))},
		{row("a", ""), row("a", "1"), list(has("a", "1"))},
		{row("a", "1"), row("b", "1"), list(lacks("a"), has("b", "1"))},
		{row("b", "1"), row("a", "1"), list(has("a", "1"), lacks("b"))},
		{row("b", "1", "d", "2"), row("a", "0", "b", "1", "d", "2"), list(has("a", "0"))},
		{row("b", "1", "d", "2"), row("b", "1", "c", "0", "d", "2"), list(has("c", "0"))},
		{row("b", "1", "d", "2"), row("b", "1", "d", "2", "e", "0"), list(has("e", "0"))},
		{row("a", "0", "b", "1", "d", "2"), row("b", "1", "d", "2"), list(lacks("a"))},
		{row("b", "1", "c", "0", "d", "2"), row("b", "1", "d", "2"), list(lacks("c"))},
		{row("b", "1", "d", "2", "e", "0"), row("b", "1", "d", "2"), list(lacks("e"))},
		{row("a", "1", "b", "2", "c", "3", "d", "4"), row("b", "2", "c", "5", "e", "1"), list(lacks("a"), has("c", "5"), lacks("d"), has("e", "1"))},
		{row("a", "1", "c", "1", "e", "1"), row("b", "1", "d", "1", "f", "1"), list(lacks("a"), has("b", "1"), lacks("c"), has("d", "1"), lacks("e"), has("f", "1"))},
		{row("d", "1", "e", "1"), row("a", "1", "b", "1"), list(has("a", "1"), has("b", "1"), lacks("d"), lacks("e"))},
		{row("a", "1", "ab", "1"), row("a", "1", "a\x00", "1", "ab", "1"), list(has("a\x00", "1"))},
		{row("z", "1", "\x80", "1"), row("z", "2", "\xff", "1"), list(has("z", "2"), lacks("\x80"), has("\xff", "1"))},
	} {
		if l := Diff(c.a, c.b); !slices.Equal(l, c.want) {
			t.Errorf("from %q to %q: %v, not %v", c.a, c.b, l, c.want)
		}
	}
}

// The chapter's own example.
func TestExample(t *testing.T) {
	a, b := row("a", "1", "b", "2"), row("b", "3")
	checkChanges(t, Diff(a, b), list(lacks("a"), has("b", "3")))
	checkRow(t, Patch(a, Diff(a, b)), b)
	checkChanges(t, Undo(a, Diff(a, b)), list(has("a", "1"), has("b", "2")))
}

func TestDiffOfEach(t *testing.T) {
	for _, a := range manyStates(72) {
		for _, b := range manyStates(73) {
			checkChanges(t, Diff(a, b), reckonDiff(a, b))
		}
		checkChanges(t, Diff(a, a), nil)
		checkChanges(t, Diff(a, slices.Clone(a)), nil)
	}
}

func TestDiffOfNoState(t *testing.T) {
	for _, m := range notStates() {
		for _, a := range states() {
			checkChanges(t, Diff(a, m), nil)
			checkChanges(t, Diff(m, a), nil)
		}
		checkChanges(t, Diff(m, m), nil)
		for _, other := range notStates() {
			checkChanges(t, Diff(m, other), nil)
		}
	}
}

func TestPatch(t *testing.T) {
	m := row("b", "1", "d", "2")
	for _, c := range []struct {
		l    []api.Change
		want []api.Pair
	}{
		{nil, m},
		{list(), m},
		{list(has("a", "0")), row("a", "0", "b", "1", "d", "2")},
		{list(has("c", "0")), row("b", "1", "c", "0", "d", "2")},
		{list(has("e", "0")), row("b", "1", "d", "2", "e", "0")},
		{list(has("", "")), row("", "", "b", "1", "d", "2")},
		{list(has("b", "9")), row("b", "9", "d", "2")},
		{list(has("b", "1")), m},
		{list(has("b", "")), row("b", "", "d", "2")},
		{list(has("b\x00", "0")), row("b", "1", "b\x00", "0", "d", "2")},
		{list(lacks("b")), row("d", "2")},
		{list(lacks("d")), row("b", "1")},
		{list(lacks("a")), m},
		{list(lacks("")), m},
		{list(lacks("c")), m},
		{list(lacks("e")), m},
		{list(valued("b", "1")), row("d", "2")},
		{list(valued("b", "9")), row("d", "2")},
		{list(valued("c", "9")), m},
		{list(lacks("b"), lacks("d")), nil},
		{list(lacks("d"), lacks("b")), nil},
		{list(lacks("b"), lacks("b")), row("d", "2")},
		{list(has("b", "8"), has("b", "9")), row("b", "9", "d", "2")},
		{list(has("b", "9"), lacks("b")), row("d", "2")},
		{list(lacks("b"), has("b", "9")), row("b", "9", "d", "2")},
		{list(lacks("b"), has("b", "1")), m},
		{list(has("c", "9"), valued("c", "9")), m},
		{list(has("c", "8"), lacks("c"), has("c", "9")), row("b", "1", "c", "9", "d", "2")},
		{list(lacks("c"), has("c", "8"), lacks("c")), m},
		{list(has("e", "5"), lacks("d"), has("a", "6"), has("e", "7"), lacks("x"), has("b", "")), row("a", "6", "b", "", "e", "7")},
		{list(has("z", "1"), has("y", "2"), has("c", "3"), has("a", "4")), row("a", "4", "b", "1", "c", "3", "d", "2", "y", "2", "z", "1")},
	} {
		if got := Patch(m, c.l); !slices.Equal(got, c.want) {
			t.Errorf("%v: %q, not %q", c.l, got, c.want)
		}
	}
}

func TestPatchOfNothing(t *testing.T) {
	for _, none := range [][]api.Pair{nil, {}} {
		checkRow(t, Patch(none, nil), nil)
		checkRow(t, Patch(none, list(lacks("a"), valued("b", "1"))), nil)
		checkRow(t, Patch(none, list(has("b", "1"), has("a", ""), has("", "\xff"))), row("", "\xff", "a", "", "b", "1"))
		checkRow(t, Patch(none, list(has("a", "1"), lacks("a"))), nil)
	}
}

func TestPatchOfEach(t *testing.T) {
	r := rand.New(rand.NewSource(74))
	for _, m := range manyStates(75) {
		checkRow(t, Patch(m, nil), m)
		for _, key := range oddKeys {
			for _, c := range []api.Change{has(key, ""), has(key, "v"), lacks(key), valued(key, "v")} {
				checkRow(t, Patch(m, list(c)), reckonPatch(m, list(c)))
			}
		}
		for range 40 {
			l := randomChanges(r)
			checkRow(t, Patch(m, l), reckonPatch(m, l))
			if !Right(Patch(m, l)) {
				t.Fatalf("%q with %v is no state", m, l)
			}
		}
	}
}

func TestPatchOfNoState(t *testing.T) {
	for _, m := range notStates() {
		var mended []api.Change
		for _, p := range m {
			mended = append(mended, lacks(p.Key))
		}
		for _, l := range [][]api.Change{nil, list(), list(has("a", "1")), list(lacks("a")), list(lacks("b"), has("b", "2")), mended} {
			checkRow(t, Patch(m, l), nil)
		}
	}
}

func TestUndo(t *testing.T) {
	m := row("b", "1", "d", "2")
	for _, c := range []struct{ l, want []api.Change }{
		{nil, nil},
		{list(), nil},
		{list(has("a", "0")), list(lacks("a"))},
		{list(has("a", "")), list(lacks("a"))},
		{list(has("", "")), list(lacks(""))},
		{list(has("c", "0")), list(lacks("c"))},
		{list(has("e", "0")), list(lacks("e"))},
		{list(has("b", "9")), list(has("b", "1"))},
		{list(has("b", "")), list(has("b", "1"))},
		{list(lacks("b")), list(has("b", "1"))},
		{list(valued("b", "9")), list(has("b", "1"))},
		{list(lacks("d"), lacks("b")), list(has("b", "1"), has("d", "2"))},
		{list(has("e", "5"), lacks("d"), has("a", "6"), has("e", "7"), has("b", "")), list(lacks("a"), has("b", "1"), has("d", "2"), lacks("e"))},
		{list(has("b", "1")), nil},
		{list(lacks("c")), nil},
		{list(valued("c", "1")), nil},
		{list(has("b", "9"), has("b", "1")), nil},
		{list(lacks("b"), has("b", "1")), nil},
		{list(has("c", "9"), lacks("c")), nil},
		{list(has("d", "2"), lacks("a"), has("b", "1")), nil},
	} {
		if l := Undo(m, c.l); !slices.Equal(l, c.want) {
			t.Errorf("%v: %v, not %v", c.l, l, c.want)
		}
	}
	checkChanges(t, Undo(nil, list(has("b", "1"), has("a", "2"), lacks("c"))), list(lacks("a"), lacks("b")))
	checkChanges(t, Undo(nil, nil), nil)
}

// What is undone is the state as it was, and what undoing tells is what changes to that, no more.
func TestUndoOfEach(t *testing.T) {
	r := rand.New(rand.NewSource(76))
	for _, m := range manyStates(77) {
		for range 40 {
			l := randomChanges(r)
			patched := reckonPatch(m, l)
			undo := Undo(m, l)
			checkChanges(t, undo, reckonDiff(patched, m))
			checkRow(t, Patch(patched, undo), m)
		}
	}
}

func TestUndoOfNoState(t *testing.T) {
	for _, m := range notStates() {
		for _, l := range [][]api.Change{nil, list(has("a", "1")), list(lacks("a")), list(lacks("a"), lacks("b"), has("c", "1"))} {
			checkChanges(t, Undo(m, l), nil)
		}
	}
}

// P7.3

func TestBack(t *testing.T) {
	for _, a := range manyStates(78) {
		for _, b := range manyStates(79) {
			l := Diff(a, b)
			checkRow(t, Patch(a, l), b)
			checkRow(t, Patch(b, Undo(a, l)), a)
			// Each key changes once, so the order in which they are done is of no matter.
			slices.Reverse(l)
			checkRow(t, Patch(a, l), b)
		}
	}
}

func TestBackOfMany(t *testing.T) {
	r := rand.New(rand.NewSource(80))
	all := map[string]string{}
	for len(all) < 3000 {
		key := make([]byte, 1+r.Intn(api.MaxKey))
		r.Read(key)
		all[string(key)] = oddValues()[r.Intn(3)]
	}
	some := maps.Clone(all)
	for _, key := range slices.Sorted(maps.Keys(all)) {
		switch r.Intn(4) {
		case 0:
			delete(some, key)
		case 1:
			delete(all, key)
		case 2:
			some[key] += "+"
		}
	}
	a, b := inOrder(all), inOrder(some)
	for _, c := range [][2][]api.Pair{{a, b}, {b, a}, {a, nil}, {nil, a}, {a, a}} {
		l := Diff(c[0], c[1])
		checkChanges(t, l, reckonDiff(c[0], c[1]))
		checkRow(t, Patch(c[0], l), c[1])
		checkRow(t, Patch(c[1], Undo(c[0], l)), c[0])
	}
}

// What is handed in and out

// roomy is a list with spare room behind it, and that room too.
func roomy[T any](l []T, spare T) (list, whole []T) {
	whole = append(slices.Clone(l), spare, spare, spare)
	return whole[:len(l)], whole
}

func TestNothingHandedInIsChanged(t *testing.T) {
	r := rand.New(rand.NewSource(81))
	rows := append(states(), notStates()...)
	for _, one := range rows {
		a, wholeA := roomy(one, api.Pair{Key: "spare", Value: "a"})
		l, wholeL := roomy(randomChanges(r), api.Change{Key: "spare", Has: true, Value: "l"})
		for _, other := range rows[:20] {
			b, wholeB := roomy(other, api.Pair{Key: "spare", Value: "b"})
			keptA, keptB, keptL := slices.Clone(wholeA), slices.Clone(wholeB), slices.Clone(wholeL)
			Right(a)
			Get(a, "a")
			Diff(a, b)
			Diff(b, a)
			Patch(a, l)
			Patch(a, nil)
			Undo(a, l)
			checkRow(t, wholeA, keptA)
			checkRow(t, wholeB, keptB)
			checkChanges(t, wholeL, keptL)
		}
	}
}

// Each answer is there as it was, whatever becomes of what was handed in, and of the others.
func TestNothingIsShared(t *testing.T) {
	r := rand.New(rand.NewSource(82))
	for _, one := range states() {
		for _, other := range states() {
			a, b, l := slices.Clone(one), slices.Clone(other), randomChanges(r)
			kept := slices.Clone(l)
			diff, again := Diff(a, b), Diff(a, b)
			patched, whole := Patch(a, l), Patch(a, nil)
			undo := Undo(a, l)
			for i := range a {
				a[i] = api.Pair{Key: "other", Value: "a"}
			}
			for i := range b {
				b[i] = api.Pair{Key: "other", Value: "b"}
			}
			for i := range l {
				l[i] = has("other", "l")
			}
			for i := range again {
				again[i] = has("other", "again")
			}
			checkChanges(t, diff, reckonDiff(one, other))
			checkRow(t, patched, reckonPatch(one, kept))
			checkRow(t, whole, one)
			checkChanges(t, undo, reckonDiff(reckonPatch(one, kept), one))
			for i := range whole {
				whole[i].Value += "!"
			}
			checkRow(t, patched, reckonPatch(one, kept))
		}
	}
}

// What was answered before hangs on nothing that is asked later.
func TestNothingIsKept(t *testing.T) {
	a, b, l := row("a", "1", "b", "2"), row("b", "3"), list(has("c", "4"), lacks("a"))
	for range 3 {
		checkChanges(t, Diff(a, b), list(lacks("a"), has("b", "3")))
		checkRow(t, Patch(a, l), row("b", "2", "c", "4"))
		checkChanges(t, Undo(a, l), list(has("a", "1"), lacks("c")))
		checkRow(t, Patch(b, l), row("b", "3", "c", "4"))
		checkChanges(t, Diff(b, b), nil)
		checkRow(t, Patch(nil, nil), nil)
	}
	a[0].Value, b[0].Key, l[0].Has = "9", "a", false
	checkChanges(t, Diff(a, b), list(has("a", "3"), lacks("b")))
	checkRow(t, Patch(a, l), row("b", "2"))
	checkChanges(t, Undo(a, l), list(has("a", "9")))
}

// Both rows are gone through anew each time, and may be left anywhere.
func TestBoth(t *testing.T) {
	a, b := row("a", "1", "b", "2", "d", ""), row("b", "3", "c", "", "d", "")
	want := [][2]api.Change{{has("a", "1"), lacks("a")}, {has("b", "2"), has("b", "3")}, {lacks("c"), has("c", "")}, {has("d", ""), has("d", "")}}
	all := both(a, b)
	for most := 1; most <= len(want); most++ {
		var told [][2]api.Change
		for was, is := range all {
			if told = append(told, [2]api.Change{was, is}); len(told) == most {
				break
			}
		}
		if !slices.Equal(told, want[:most]) {
			t.Errorf("%v, not %v", told, want[:most])
		}
	}
}
