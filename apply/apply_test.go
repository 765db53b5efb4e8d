package apply

import (
	"maps"
	"math"
	"math/big"
	"math/rand"
	"regexp"
	"slices"
	"strconv"
	"strings"
	"testing"

	"philtre/api"
	"philtre/state"
)

// row makes a row of keys and their values, in turn.
func row(texts ...string) []api.Pair {
	var m []api.Pair
	for i := 0; i < len(texts); i += 2 {
		m = append(m, api.Pair{Key: texts[i], Value: texts[i+1]})
	}
	return m
}

func has(key, value string) api.Change { return api.Change{Key: key, Has: true, Value: value} }

func lacks(key string) api.Change { return api.Change{Key: key} }

func changes(l ...api.Change) []api.Change { return l }

func put(key, value string) api.Step { return api.Step{Kind: api.Put, Key: key, Value: value} }

func del(key string) api.Step { return api.Step{Kind: api.Delete, Key: key} }

func add(key string, n int64) api.Step { return api.Step{Kind: api.Add, Key: key, N: n} }

func cas(key, old, value string) api.Step {
	return api.Step{Kind: api.Cas, Key: key, Old: old, Value: value}
}

func guard(kind int, key, value string) api.Guard {
	return api.Guard{Kind: kind, Key: key, Value: value}
}

// op is an operation without guards.
func op(steps ...api.Step) api.Op { return api.Op{Steps: steps} }

// under is the operation under guards.
func under(o api.Op, guards ...api.Guard) api.Op {
	o.Guards = guards
	return o
}

func long(n int) string { return strings.Repeat("k", n) }

// notStates are rows whose keys don't rise strictly; k is in most of them, and is a number's text wherever it is.
func notStates() [][]api.Pair {
	return [][]api.Pair{
		row("k", "1", "k", "1"), row("k", "1", "k", "2"), row("k", "1", "a", "1"), row("z", "1", "k", "1"), row("", "1", "", "1"), row("k", "1", "", "1"), row("\xff", "1", "k", "1"),
		row("a", "1", "k", "1", "k", "1"), row("a", "1", "a", "1", "k", "1"), row("k", "1", "a", "1", "z", "1"), row("a", "1", "z", "1", "k", "1"), row("k", "1", "z", "1", "k", "1"), row("a", "1", "k", "1", "z", "1", "b", "1"),
	}
}

// wrongGuards are guards that may not be, most of which would hold of k=1 or of no k, were only their kind looked at.
func wrongGuards() []api.Guard {
	return []api.Guard{
		{}, guard(0, "k", ""), guard(0, "k", "1"), guard(4, "k", ""), guard(4, "k", "1"), guard(-1, "k", ""), guard(math.MinInt, "k", ""), guard(math.MaxInt, "k", "1"), guard(1<<32+api.Has, "k", ""), guard(256+api.Lacks, "none", ""),
		guard(api.Has, "k", "1"), guard(api.Has, "k", "2"), guard(api.Lacks, "none", "1"), guard(api.Lacks, "none", "\x00"),
		guard(api.Has, long(api.MaxKey+1), ""), guard(api.Lacks, long(api.MaxKey+1), ""), guard(api.Equals, long(api.MaxKey+1), "1"), guard(api.Lacks, long(300), ""),
		guard(api.Equals, "k", long(api.MaxValue+1)), guard(api.Equals, "longest", long(api.MaxValue+1)), guard(api.Equals, "none", long(300)),
	}
}

// wrongSteps are steps that may not be, most of which would take of k=1, were only their kind looked at.
func wrongSteps() []api.Step {
	tooLong, tooMuch := long(api.MaxKey+1), long(api.MaxValue+1)
	return []api.Step{
		{}, {Kind: 0, Key: "k"}, {Kind: 5, Key: "k"}, {Kind: 5, Key: "k", Value: "1"}, {Kind: -1, Key: "k"}, {Kind: math.MinInt, Key: "k"}, {Kind: math.MaxInt, Key: "k"}, {Kind: 1<<32 + api.Put, Key: "k"}, {Kind: 256 + api.Delete, Key: "k"},
		put(tooLong, ""), del(tooLong), add(tooLong, 1), cas(tooLong, "1", "2"), put(long(300), "1"),
		put("k", tooMuch), cas("k", "1", tooMuch), cas("longest", tooMuch, "1"), put("none", long(300)),
		{Kind: api.Put, Key: "k", Value: "2", Old: "1"}, {Kind: api.Put, Key: "k", Value: "2", N: 1}, {Kind: api.Put, Key: "k", Value: "2", N: math.MinInt64},
		{Kind: api.Delete, Key: "k", Value: "1"}, {Kind: api.Delete, Key: "k", Old: "1"}, {Kind: api.Delete, Key: "k", N: 1}, {Kind: api.Delete, Key: "none", N: -1},
		{Kind: api.Add, Key: "k", N: 1, Value: "1"}, {Kind: api.Add, Key: "k", N: 1, Old: "1"}, {Kind: api.Add, Key: "none", Value: "1"},
		{Kind: api.Cas, Key: "k", Old: "1", Value: "2", N: 1}, {Kind: api.Cas, Key: "k", Old: "1", Value: "2", N: -1},
	}
}

// some is a state with values of each sort.
func some() []api.Pair {
	return row("", "nothing", "a", "", "k", "1", long(api.MaxKey), "16", long(api.MaxKey+1), "17", "longest", long(api.MaxValue+1), "n", "-5", "x", "no number", "\xff", "\x00")
}

// reckoned is a row as a map of Go's.
func reckoned(m []api.Pair) map[string]string {
	values := map[string]string{}
	for _, p := range m {
		values[p.Key] = p.Value
	}
	return values
}

// inOrder is a map of Go's as a row.
func inOrder(values map[string]string) []api.Pair {
	var m []api.Pair
	for _, key := range slices.Sorted(maps.Keys(values)) {
		m = append(m, api.Pair{Key: key, Value: values[key]})
	}
	return m
}

func rises(m []api.Pair) bool {
	for i := 1; i < len(m); i++ {
		if m[i].Key <= m[i-1].Key {
			return false
		}
	}
	return true
}

// mayGuard and mayStep put down once more what may be, as a table of lengths and of what has to be empty.
func mayGuard(g api.Guard) bool {
	most, known := map[int]int{api.Has: 0, api.Lacks: 0, api.Equals: 32}[g.Kind]
	return known && len(g.Key) <= 16 && len(g.Value) <= most
}

func mayStep(s api.Step) bool {
	most, known := map[int][2]int{api.Put: {32, 0}, api.Delete: {0, 0}, api.Add: {0, 0}, api.Cas: {32, 32}}[s.Kind]
	return known && len(s.Key) <= 16 && len(s.Value) <= most[0] && len(s.Old) <= most[1] && (s.N == 0 || s.Kind == api.Add)
}

func reckonHolds(m []api.Pair, g api.Guard) bool {
	value, is := reckoned(m)[g.Key]
	holds := map[int]bool{api.Has: is, api.Lacks: !is, api.Equals: is && value == g.Value}
	return rises(m) && mayGuard(g) && holds[g.Kind]
}

var numberText = regexp.MustCompile(`\A(0|-?[1-9][0-9]*)\z`)

// reckonSum adds in numbers without an end.
func reckonSum(text string, n int64) (string, bool) {
	if !numberText.MatchString(text) {
		return "", false
	}
	before, _ := new(big.Int).SetString(text, 10)
	after := new(big.Int).Add(before, big.NewInt(n))
	return after.String(), before.IsInt64() && after.IsInt64()
}

// reckonStep does a step on a map of Go's, if it takes.
func reckonStep(values map[string]string, s api.Step) bool {
	value, is := values[s.Key]
	switch {
	case !mayStep(s):
		return false
	case s.Kind == api.Put:
		values[s.Key] = s.Value
	case s.Kind == api.Delete:
		delete(values, s.Key)
	case s.Kind == api.Cas:
		if !is || value != s.Old {
			return false
		}
		values[s.Key] = s.Value
	case s.Kind == api.Add:
		if !is {
			value = "0"
		}
		sum, takes := reckonSum(value, s.N)
		if !takes {
			return false
		}
		values[s.Key] = sum
	}
	return true
}

// reckonDo does an operation on a map of Go's.
func reckonDo(m []api.Pair, o api.Op) ([]api.Pair, []api.Change, bool) {
	if !rises(m) {
		return nil, nil, false
	}
	values := reckoned(m)
	took := len(o.Guards) <= 4 && len(o.Steps) >= 1 && len(o.Steps) <= 4
	for _, g := range o.Guards {
		took = took && reckonHolds(m, g)
	}
	for _, s := range o.Steps {
		took = took && reckonStep(values, s)
	}
	if !took {
		return m, nil, false
	}
	return inOrder(values), reckonChanges(reckoned(m), values), true
}

func reckonChanges(was, is map[string]string) []api.Change {
	keys := maps.Clone(was)
	maps.Copy(keys, is)
	var l []api.Change
	for _, key := range slices.Sorted(maps.Keys(keys)) {
		before, had := was[key]
		if value, has := is[key]; had != has || before != value {
			l = append(l, api.Change{Key: key, Has: has, Value: value})
		}
	}
	return l
}

func checkHolds(t *testing.T, m []api.Pair, g api.Guard, want bool) {
	t.Helper()
	if Holds(m, g) != want {
		t.Errorf("%#v of %q: %v", g, m, !want)
	}
}

func checkStep(t *testing.T, m []api.Pair, s api.Step, want []api.Pair, wantTook bool) {
	t.Helper()
	if made, took := Step(m, s); !slices.Equal(made, want) || took != wantTook {
		t.Errorf("%#v of %q: %q, %v, not %q, %v", s, m, made, took, want, wantTook)
	}
}

func checkDo(t *testing.T, m []api.Pair, o api.Op, want []api.Pair, wantChanges []api.Change, wantTook bool) {
	t.Helper()
	if made, l, took := Do(m, o); !slices.Equal(made, want) || !slices.Equal(l, wantChanges) || took != wantTook {
		t.Errorf("%#v of %q: %q, %#v, %v, not %q, %#v, %v", o, m, made, l, took, want, wantChanges, wantTook)
	}
}

// P10.1

func TestHolds(t *testing.T) {
	longest := strings.Repeat("v", api.MaxValue)
	m := row("", "nothing", "a", "", "k", "1", long(api.MaxKey), longest, "\xff", "\x00")
	for _, c := range []struct {
		g    api.Guard
		want bool
	}{
		{guard(api.Has, "k", ""), true}, {guard(api.Has, "a", ""), true}, {guard(api.Has, "", ""), true}, {guard(api.Has, long(api.MaxKey), ""), true}, {guard(api.Has, "\xff", ""), true},
		{guard(api.Has, "b", ""), false}, {guard(api.Has, "kk", ""), false}, {guard(api.Has, "1", ""), false}, {guard(api.Has, "\x00", ""), false}, {guard(api.Has, "\xff\xff", ""), false}, {guard(api.Has, long(api.MaxKey-1), ""), false},
		{guard(api.Lacks, "k", ""), false}, {guard(api.Lacks, "a", ""), false}, {guard(api.Lacks, "", ""), false}, {guard(api.Lacks, long(api.MaxKey), ""), false}, {guard(api.Lacks, "\xff", ""), false},
		{guard(api.Lacks, "b", ""), true}, {guard(api.Lacks, "kk", ""), true}, {guard(api.Lacks, "1", ""), true}, {guard(api.Lacks, "\x00", ""), true}, {guard(api.Lacks, "\xff\xff", ""), true}, {guard(api.Lacks, long(api.MaxKey-1), ""), true},
		{guard(api.Equals, "k", "1"), true}, {guard(api.Equals, "k", "2"), false}, {guard(api.Equals, "k", ""), false}, {guard(api.Equals, "k", "01"), false}, {guard(api.Equals, "k", "1\x00"), false},
		{guard(api.Equals, "a", ""), true}, {guard(api.Equals, "a", "1"), false}, {guard(api.Equals, "a", "\x00"), false},
		{guard(api.Equals, "b", ""), false}, {guard(api.Equals, "b", "1"), false}, {guard(api.Equals, "kk", "1"), false},
		{guard(api.Equals, "", "nothing"), true}, {guard(api.Equals, "", ""), false}, {guard(api.Equals, long(api.MaxKey), longest), true}, {guard(api.Equals, long(api.MaxKey), longest[1:]), false}, {guard(api.Equals, "\xff", "\x00"), true}, {guard(api.Equals, "\xff", ""), false},
	} {
		checkHolds(t, m, c.g, c.want)
	}
}

func TestHoldsOfTheEmptyState(t *testing.T) {
	for _, m := range [][]api.Pair{nil, {}} {
		for _, key := range []string{"", "k", "\x00", long(api.MaxKey)} {
			checkHolds(t, m, guard(api.Has, key, ""), false)
			checkHolds(t, m, guard(api.Lacks, key, ""), true)
			checkHolds(t, m, guard(api.Equals, key, ""), false)
			checkHolds(t, m, guard(api.Equals, key, "1"), false)
		}
	}
}

func TestHoldsOfWrongGuards(t *testing.T) {
	for _, g := range wrongGuards() {
		for _, m := range [][]api.Pair{nil, row("k", "1"), row("k", ""), some()} {
			checkHolds(t, m, g, false)
		}
	}
}

func TestHoldsOfNoState(t *testing.T) {
	for _, m := range notStates() {
		for _, key := range []string{"k", "a", "z", "", "\xff", "none"} {
			checkHolds(t, m, guard(api.Has, key, ""), false)
			checkHolds(t, m, guard(api.Lacks, key, ""), false)
			checkHolds(t, m, guard(api.Equals, key, "1"), false)
			checkHolds(t, m, guard(api.Equals, key, ""), false)
		}
	}
}

func TestStepPut(t *testing.T) {
	m, longest := row("b", "1", "d", "2"), strings.Repeat("v", api.MaxValue)
	for _, c := range []struct {
		s    api.Step
		want []api.Pair
	}{
		{put("a", "0"), row("a", "0", "b", "1", "d", "2")},
		{put("", "0"), row("", "0", "b", "1", "d", "2")},
		{put("c", "0"), row("b", "1", "c", "0", "d", "2")},
		{put("b\x00", "0"), row("b", "1", "b\x00", "0", "d", "2")},
		{put("e", "0"), row("b", "1", "d", "2", "e", "0")},
		{put("\xff", "\xff"), row("b", "1", "d", "2", "\xff", "\xff")},
		{put("c", ""), row("b", "1", "c", "", "d", "2")},
		{put("b", "9"), row("b", "9", "d", "2")},
		{put("d", "9"), row("b", "1", "d", "9")},
		{put("b", ""), row("b", "", "d", "2")},
		{put("b", "1"), m},
		{put("d", "2"), m},
		{put("b", longest), row("b", longest, "d", "2")},
		{put(long(api.MaxKey), longest), row("b", "1", "d", "2", long(api.MaxKey), longest)},
	} {
		checkStep(t, m, c.s, c.want, true)
	}
	checkStep(t, nil, put("a", "0"), row("a", "0"), true)
	checkStep(t, nil, put("", ""), row("", ""), true)
	checkStep(t, []api.Pair{}, put("a", ""), row("a", ""), true)
}

func TestStepDelete(t *testing.T) {
	m := row("", "9", "b", "1", "c", "", "d", "2")
	checkStep(t, m, del(""), row("b", "1", "c", "", "d", "2"), true)
	checkStep(t, m, del("b"), row("", "9", "c", "", "d", "2"), true)
	checkStep(t, m, del("c"), row("", "9", "b", "1", "d", "2"), true)
	checkStep(t, m, del("d"), row("", "9", "b", "1", "c", ""), true)
	for _, key := range []string{"a", "b\x00", "bb", "e", "1", "\xff", long(api.MaxKey)} {
		checkStep(t, m, del(key), m, true)
	}
	checkStep(t, row("b", "1"), del("b"), nil, true)
	checkStep(t, nil, del("b"), nil, true)
	checkStep(t, nil, del(""), nil, true)
}

const (
	least    = "-9223372036854775808"
	greatest = "9223372036854775807"
)

func TestStepAdd(t *testing.T) {
	for _, c := range []struct {
		value string
		n     int64
		want  string
	}{
		{"0", 0, "0"}, {"0", 5, "5"}, {"0", -5, "-5"}, {"0", math.MinInt64, least}, {"0", math.MaxInt64, greatest},
		{"7", 0, "7"}, {"-7", 0, "-7"}, {"7", -7, "0"}, {"-7", 7, "0"}, {"7", -8, "-1"}, {"-7", 8, "1"}, {"9", 1, "10"}, {"10", -1, "9"}, {"-9", -1, "-10"}, {"99", 901, "1000"},
		{"1", -1, "0"}, {"0", -1, "-1"}, {"-1", -1, "-2"}, {"-1", 1, "0"}, {"100", -1, "99"},
		{greatest, 0, greatest}, {least, 0, least}, {greatest, -1, "9223372036854775806"}, {least, 1, "-9223372036854775807"}, {greatest, math.MinInt64, "-1"}, {least, math.MaxInt64, "-1"},
		{"9223372036854775806", 1, greatest}, {"1", math.MaxInt64 - 1, greatest}, {"-1", math.MaxInt64, "9223372036854775806"}, {"-9223372036854775807", -1, least}, {"-1", math.MinInt64 + 1, least}, {"1", math.MinInt64, "-9223372036854775807"},
		{"4611686018427387904", 1<<62 - 1, greatest}, {"-4611686018427387904", -1 << 62, least}, {greatest, -math.MaxInt64, "0"},
	} {
		checkStep(t, row("a", "x", "n", c.value, "z", "1"), add("n", c.n), row("a", "x", "n", c.want, "z", "1"), true)
	}
}

func TestStepAddToNone(t *testing.T) {
	for _, n := range []int64{0, 1, -1, 5, 1000, math.MinInt64, math.MaxInt64} {
		text := strconv.FormatInt(n, 10)
		checkStep(t, nil, add("n", n), row("n", text), true)
		checkStep(t, row("m", "7"), add("n", n), row("m", "7", "n", text), true)
		checkStep(t, row("m", "7"), add("", n), row("", text, "m", "7"), true)
		checkStep(t, row("l", "x", "o", greatest), add("n", n), row("l", "x", "n", text, "o", greatest), true)
	}
}

func TestStepAddBeyond(t *testing.T) {
	for _, c := range []struct {
		value string
		n     int64
	}{
		{greatest, 1}, {greatest, math.MaxInt64}, {"1", math.MaxInt64}, {"2", math.MaxInt64 - 1}, {"9223372036854775806", 2}, {"4611686018427387904", 1 << 62},
		{least, -1}, {least, math.MinInt64}, {"-1", math.MinInt64}, {"-2", math.MinInt64 + 1}, {"-9223372036854775807", -2}, {"-4611686018427387905", -1 << 62},
	} {
		m := row("a", "x", "n", c.value, "z", "1")
		checkStep(t, m, add("n", c.n), m, false)
	}
}

func TestStepAddToNoNumber(t *testing.T) {
	for _, value := range []string{
		"", "007", "00", "01", "-0", "-00", "-01", "+1", "+0", "+", "-", "--1", " ", " 1", "1 ", "1\n", "\n", "x", "1x", "x1", "1.0", "1e3", "0x1", "1_0", "\x00", "1\x00", "\xff", "\xd9\xa1", long(api.MaxValue), "-x", "n", "NaN", "\u2212\u0031",
		"9223372036854775808", "-9223372036854775809", "18446744073709551615", "18446744073709551616", "-18446744073709551616", "99999999999999999999999999999999", strings.Repeat("1", 300),
	} {
		m := row("a", "1", "n", value, "z", "1")
		for _, n := range []int64{0, 1, -1, math.MinInt64, math.MaxInt64} {
			checkStep(t, m, add("n", n), m, false)
		}
		checkStep(t, m, add("m", 5), row("a", "1", "m", "5", "n", value, "z", "1"), true)
	}
}

func TestStepCas(t *testing.T) {
	longest := strings.Repeat("v", api.MaxValue)
	m := row("a", "1", "e", "", "k", "old", long(api.MaxKey), longest, "z", "1")
	for _, c := range []struct {
		s    api.Step
		want []api.Pair
	}{
		{cas("k", "old", "new"), row("a", "1", "e", "", "k", "new", long(api.MaxKey), longest, "z", "1")},
		{cas("k", "old", ""), row("a", "1", "e", "", "k", "", long(api.MaxKey), longest, "z", "1")},
		{cas("k", "old", "old"), m},
		{cas("k", "old", longest), row("a", "1", "e", "", "k", longest, long(api.MaxKey), longest, "z", "1")},
		{cas("e", "", "new"), row("a", "1", "e", "new", "k", "old", long(api.MaxKey), longest, "z", "1")},
		{cas("e", "", ""), m},
		{cas("a", "1", "2"), row("a", "2", "e", "", "k", "old", long(api.MaxKey), longest, "z", "1")},
		{cas("z", "1", "2"), row("a", "1", "e", "", "k", "old", long(api.MaxKey), longest, "z", "2")},
		{cas(long(api.MaxKey), longest, "2"), row("a", "1", "e", "", "k", "old", long(api.MaxKey), "2", "z", "1")},
	} {
		checkStep(t, m, c.s, c.want, true)
	}
	for _, s := range []api.Step{
		cas("k", "", "new"), cas("k", "new", "old"), cas("k", "ol", "new"), cas("k", "old\x00", "new"), cas("k", "Old", "new"), cas("e", "old", "new"), cas("e", "\x00", ""), cas("a", "01", "1"), cas("a", "", ""),
		cas("b", "", "new"), cas("b", "", ""), cas("b", "old", "new"), cas("b", "1", "1"), cas("", "", ""), cas("", "", "new"), cas("kk", "old", "new"), cas("\xff", "", "1"), cas(long(api.MaxKey), longest[1:], "2"),
	} {
		checkStep(t, m, s, m, false)
	}
	checkStep(t, nil, cas("k", "", ""), nil, false)
	checkStep(t, nil, cas("k", "", "new"), nil, false)
	checkStep(t, nil, cas("", "old", "new"), nil, false)
}

func TestWrongSteps(t *testing.T) {
	for _, s := range wrongSteps() {
		for _, m := range [][]api.Pair{nil, row("k", "1"), row("k", ""), row("k", "2"), some()} {
			checkStep(t, m, s, m, false)
		}
	}
}

func TestStepOfNoState(t *testing.T) {
	for _, m := range notStates() {
		for _, key := range []string{"k", "a", "z", "", "\xff", "none"} {
			for _, s := range []api.Step{put(key, "1"), put(key, "2"), del(key), add(key, 0), add(key, 1), cas(key, "1", "2"), cas(key, "", "2")} {
				checkStep(t, m, s, nil, false)
			}
		}
		for _, s := range wrongSteps() {
			checkStep(t, m, s, nil, false)
		}
	}
}

// The chapter's own example.
func TestExample(t *testing.T) {
	checkStep(t, nil, add("n", 5), row("n", "5"), true)
	checkStep(t, row("n", "x"), add("n", 5), row("n", "x"), false)
	checkDo(t, nil, op(add("n", 5)), row("n", "5"), changes(has("n", "5")), true)
	checkDo(t, row("n", "x"), op(add("n", 5)), row("n", "x"), nil, false)
}

// P10.2

func TestDo(t *testing.T) {
	m := row("b", "1", "d", "2")
	for _, c := range []struct {
		o    api.Op
		want []api.Pair
		l    []api.Change
	}{
		{op(put("a", "0")), row("a", "0", "b", "1", "d", "2"), changes(has("a", "0"))},
		{op(put("b", "")), row("b", "", "d", "2"), changes(has("b", ""))},
		{op(put("b", "1")), m, nil},
		{op(del("b")), row("d", "2"), changes(lacks("b"))},
		{op(del("c")), m, nil},
		{op(del("b"), del("d")), nil, changes(lacks("b"), lacks("d"))},
		{op(add("b", 41)), row("b", "42", "d", "2"), changes(has("b", "42"))},
		{op(add("b", 0)), m, nil},
		{op(add("c", 0)), row("b", "1", "c", "0", "d", "2"), changes(has("c", "0"))},
		{op(cas("b", "1", "x")), row("b", "x", "d", "2"), changes(has("b", "x"))},
		{op(cas("b", "1", "1")), m, nil},
		{op(put("z", "26"), del("b"), add("d", -3), put("a", "")), row("a", "", "d", "-1", "z", "26"), changes(has("a", ""), lacks("b"), has("d", "-1"), has("z", "26"))},
	} {
		checkDo(t, m, c.o, c.want, c.l, true)
	}
	checkDo(t, nil, op(put("", "")), row("", ""), changes(has("", "")), true)
	checkDo(t, []api.Pair{}, op(del("")), nil, nil, true)
}

// Each step finds what those ahead of it made.
func TestDoBuilds(t *testing.T) {
	m := row("b", "1", "d", "2")
	for _, c := range []struct {
		o    api.Op
		want []api.Pair
		l    []api.Change
	}{
		{op(put("c", "x"), cas("c", "x", "y")), row("b", "1", "c", "y", "d", "2"), changes(has("c", "y"))},
		{op(put("b", ""), cas("b", "", "y")), row("b", "y", "d", "2"), changes(has("b", "y"))},
		{op(put("c", "5"), add("c", -6)), row("b", "1", "c", "-1", "d", "2"), changes(has("c", "-1"))},
		{op(add("b", 5), add("b", 6)), row("b", "12", "d", "2"), changes(has("b", "12"))},
		{op(add("c", math.MaxInt64), add("c", math.MinInt64)), row("b", "1", "c", "-1", "d", "2"), changes(has("c", "-1"))},
		{op(add("c", 5), add("c", -5), del("c")), m, nil},
		{op(del("b"), add("b", 5)), row("b", "5", "d", "2"), changes(has("b", "5"))},
		{op(del("b"), add("b", 1)), m, nil},
		{op(del("b"), put("b", "3")), row("b", "3", "d", "2"), changes(has("b", "3"))},
		{op(del("b"), put("b", "1")), m, nil},
		{op(put("b", "3"), del("b")), row("d", "2"), changes(lacks("b"))},
		{op(put("c", "3"), del("c")), m, nil},
		{op(put("b", "3"), put("b", "1")), m, nil},
		{op(put("b", "3"), put("b", "4"), put("b", "5"), put("b", "6")), row("b", "6", "d", "2"), changes(has("b", "6"))},
		{op(cas("b", "1", "2"), cas("b", "2", "3"), cas("b", "3", "1")), m, nil},
		{op(add("b", 1), cas("b", "2", "x"), put("b", "9"), add("b", 1)), row("b", "10", "d", "2"), changes(has("b", "10"))},
		{op(del("d"), del("d"), put("a", "1"), del("b")), row("a", "1"), changes(has("a", "1"), lacks("b"), lacks("d"))},
	} {
		checkDo(t, m, c.o, c.want, c.l, true)
	}
}

// A step that is refused takes those ahead of it back, and those behind it are not done.
func TestDoRefused(t *testing.T) {
	m := row("b", "1", "d", "x", "e", "")
	for _, o := range []api.Op{
		op(add("d", 1)), op(add("e", 0)), op(cas("b", "2", "3")), op(cas("c", "", "3")), op(cas("e", "1", "3")),
		op(put("a", "1"), add("d", 1)), op(add("d", 1), put("a", "1")), op(put("a", "1"), add("d", 1), put("b", "2")),
		op(put("a", "1"), del("b"), add("b", 5), cas("b", "6", "7")), op(del("b"), cas("b", "1", "2")), op(del("b"), cas("b", "", "2")), op(del("b"), cas("b", "5", "2"), del("e")),
		op(put("b", "y"), add("b", 1)), op(put("b", "2"), cas("b", "1", "3")), op(cas("b", "1", "2"), cas("b", "1", "2")), op(put("d", "1"), add("d", 1), cas("d", "1", "2")),
		op(add("c", math.MaxInt64), add("c", 1)), op(add("c", math.MinInt64), add("c", -1)), op(add("b", math.MaxInt64)), op(add("b", -2), add("b", math.MinInt64)), op(add("b", math.MaxInt64), add("b", -1)),
	} {
		checkDo(t, m, o, m, nil, false)
	}
	checkDo(t, nil, op(put("a", "1"), cas("b", "", "")), nil, nil, false)
	checkDo(t, nil, op(cas("a", "", "")), nil, nil, false)
}

func TestDoUnderGuards(t *testing.T) {
	m := row("b", "1", "d", "")
	holds := []api.Guard{guard(api.Has, "b", ""), guard(api.Lacks, "c", ""), guard(api.Equals, "b", "1"), guard(api.Equals, "d", "")}
	fails := []api.Guard{guard(api.Has, "c", ""), guard(api.Lacks, "b", ""), guard(api.Lacks, "d", ""), guard(api.Equals, "b", "2"), guard(api.Equals, "b", ""), guard(api.Equals, "d", "1"), guard(api.Equals, "c", ""), guard(api.Equals, "c", "1")}
	o := op(put("c", "3"), del("b"))
	for n := range holds {
		checkDo(t, m, under(o, holds[:n+1]...), row("c", "3", "d", ""), changes(lacks("b"), has("c", "3")), true)
		for at := range n + 1 {
			for _, g := range fails {
				guards := slices.Clone(holds[:n+1])
				guards[at] = g
				checkDo(t, m, under(o, guards...), m, nil, false)
			}
		}
	}
	for _, g := range fails {
		checkDo(t, m, under(o, g, fails[0], g, g), m, nil, false)
	}
	checkDo(t, nil, under(o, guard(api.Lacks, "b", "")), row("c", "3"), changes(has("c", "3")), true)
	checkDo(t, nil, under(o, guard(api.Has, "b", "")), nil, nil, false)
}

// Guards are asked of the state as it is handed in, not of what the steps make of it.
func TestGuardsAreAheadOfSteps(t *testing.T) {
	m := row("b", "1")
	checkDo(t, m, under(op(del("b")), guard(api.Has, "b", "")), nil, changes(lacks("b")), true)
	checkDo(t, m, under(op(put("c", "1")), guard(api.Lacks, "c", "")), row("b", "1", "c", "1"), changes(has("c", "1")), true)
	checkDo(t, m, under(op(put("b", "2")), guard(api.Equals, "b", "1")), row("b", "2"), changes(has("b", "2")), true)
	checkDo(t, m, under(op(del("b")), guard(api.Lacks, "b", "")), m, nil, false)
	checkDo(t, m, under(op(put("c", "1")), guard(api.Has, "c", "")), m, nil, false)
	checkDo(t, m, under(op(put("b", "2")), guard(api.Equals, "b", "2")), m, nil, false)
}

func TestDoOfWrongOperations(t *testing.T) {
	m := row("b", "1", "k", "1")
	right, holds := put("a", "1"), guard(api.Has, "b", "")
	wrong := []api.Op{{}, under(op(), holds), op(right, right, right, right, right), under(op(right), holds, holds, holds, holds, holds), op(slices.Repeat([]api.Step{right}, 300)...)}
	for _, s := range wrongSteps() {
		wrong = append(wrong, op(s), op(right, s), op(s, right), op(right, right, s, right), under(op(right, right, right, s), holds))
	}
	for _, g := range wrongGuards() {
		wrong = append(wrong, under(op(right), g), under(op(right), holds, g), under(op(right), g, holds), under(op(right), holds, holds, holds, g))
	}
	for _, o := range wrong {
		checkDo(t, m, o, m, nil, false)
		checkDo(t, nil, o, nil, nil, false)
		checkDo(t, some(), o, some(), nil, false)
	}
	checkDo(t, m, under(op(right, right, right, right), holds, holds, holds, holds), row("a", "1", "b", "1", "k", "1"), changes(has("a", "1")), true)
}

func TestDoOfNoState(t *testing.T) {
	for _, m := range notStates() {
		for _, o := range []api.Op{op(put("k", "2")), op(put("none", "1")), op(del("k")), op(del("k"), del("a"), del("z"), del("")), op(add("k", 1)), op(cas("k", "1", "2")), op(cas("k", "2", "1")), under(op(put("b", "1")), guard(api.Has, "k", "")), under(op(put("b", "1")), guard(api.Lacks, "none", "")), {}, op(put(long(17), ""))} {
			checkDo(t, m, o, nil, nil, false)
		}
	}
}

// P10.3

// few are texts for keys and values that come again and again, so that guards hold and steps are refused in about equal parts.
var few = []string{"", "a", "b", "n", "0", "-1", "7", greatest, "x"}

func pick[T any](r *rand.Rand, l []T) T { return l[r.Intn(len(l))] }

func randomState(r *rand.Rand) []api.Pair {
	values := map[string]string{}
	for range r.Intn(6) {
		values[pick(r, few[:4])] = pick(r, few)
	}
	return inOrder(values)
}

func randomGuard(r *rand.Rand) api.Guard {
	if r.Intn(30) == 0 {
		return pick(r, wrongGuards())
	}
	g := guard(1+r.Intn(3), pick(r, few[:4]), "")
	if g.Kind == api.Equals {
		g.Value = pick(r, few)
	}
	return g
}

func randomStep(r *rand.Rand) api.Step {
	key := pick(r, few[:4])
	switch r.Intn(30) {
	case 0:
		return pick(r, wrongSteps())
	case 1, 2, 3, 4, 5, 6, 7:
		return del(key)
	case 8, 9, 10, 11, 12, 13, 14, 15:
		return add(key, pick(r, []int64{0, 1, -1, 5, math.MinInt64, math.MaxInt64, int64(r.Uint64())}))
	case 16, 17, 18, 19, 20:
		return cas(key, pick(r, few), pick(r, few))
	}
	return put(key, pick(r, few))
}

func randomOp(r *rand.Rand) api.Op {
	var o api.Op
	if r.Intn(2) == 0 {
		for range r.Intn(4) + r.Intn(3) {
			o.Guards = append(o.Guards, randomGuard(r))
		}
	}
	for range r.Intn(5) + r.Intn(2) {
		o.Steps = append(o.Steps, randomStep(r))
	}
	return o
}

// aimedGuards are right guards that hold of the state, so that operations with guards take as well.
func aimedGuards(r *rand.Rand, m []api.Pair) []api.Guard {
	var l []api.Guard
	for range r.Intn(5) {
		key := pick(r, few[:4])
		value, is := reckoned(m)[key]
		switch {
		case !is:
			l = append(l, guard(api.Lacks, key, ""))
		case r.Intn(2) == 0:
			l = append(l, guard(api.Has, key, ""))
		default:
			l = append(l, guard(api.Equals, key, value))
		}
	}
	return l
}

func TestWhole(t *testing.T) {
	r := rand.New(rand.NewSource(101))
	var took, changed int
	const all = 20000
	for range all {
		m, o := randomState(r), randomOp(r)
		if r.Intn(2) == 0 {
			o.Guards = aimedGuards(r, m)
		}
		wantState, wantChanges, wantTook := reckonDo(m, o)
		checkDo(t, m, o, wantState, wantChanges, wantTook)
		checkParts(t, m, o)
		if wantTook {
			took++
		}
		if len(wantChanges) > 0 {
			changed++
		}
		if t.Failed() {
			return
		}
	}
	if took < all/5 || all-took < all/5 || changed < all/8 || took-changed < all/40 {
		t.Errorf("of %d took %d and changed %d: too few of one sort", all, took, changed)
	}
}

// checkParts holds Do against what it comes to: guards that hold, and steps that take one behind the other.
func checkParts(t *testing.T, m []api.Pair, o api.Op) {
	t.Helper()
	made, l, took := Do(m, o)
	if !took && (!slices.Equal(made, m) || len(l) > 0) {
		t.Errorf("%#v is refused, and changes %q to %q, %#v", o, m, made, l)
	}
	if patched := state.Patch(m, l); !slices.Equal(patched, made) {
		t.Errorf("%#v of %q: %q, and by its changes %q", o, m, made, patched)
	}
	if !state.Right(made) {
		t.Errorf("%#v of %q: %q is no state", o, m, made)
	}
	for _, c := range l {
		if !slices.ContainsFunc(o.Steps, func(s api.Step) bool { return s.Key == c.Key }) {
			t.Errorf("%#v changes %q, which no step names", o, c.Key)
		}
	}
	right := len(o.Guards) <= 4 && len(o.Steps) >= 1 && len(o.Steps) <= 4
	for _, g := range o.Guards {
		checkHolds(t, m, g, reckonHolds(m, g))
		right = right && Holds(m, g)
	}
	at := slices.Clone(m)
	for _, s := range o.Steps {
		values := reckoned(at)
		takes := reckonStep(values, s)
		checkStep(t, at, s, inOrder(values), takes)
		at, right = inOrder(values), right && takes
	}
	if took != right {
		t.Errorf("%#v of %q: %v, and by its parts %v", o, m, took, right)
	}
}

// Each kind of step on each value that a key may have, with each text or number of its own.
func TestEachStep(t *testing.T) {
	values := append(slices.Clone(few), least, "-", "00", long(api.MaxValue), long(api.MaxValue+1))
	states := [][]api.Pair{nil, row("a", "1"), row("z", "1"), row("a", "1", "z", "1")}
	for _, value := range values {
		states = append(states, row("k", value), row("a", "x", "k", value, "z", "x"))
	}
	for _, m := range states {
		var steps []api.Step
		for _, text := range values {
			steps = append(steps, put("k", text))
			for _, old := range values {
				steps = append(steps, cas("k", old, text))
			}
		}
		for _, n := range []int64{0, 1, -1, 7, -7, math.MinInt64, math.MinInt64 + 1, math.MaxInt64, math.MaxInt64 - 1} {
			steps = append(steps, add("k", n))
		}
		for _, s := range append(steps, del("k")) {
			values := reckoned(m)
			takes := reckonStep(values, s)
			checkStep(t, m, s, inOrder(values), takes)
			made, l, took := reckonDo(m, op(s))
			checkDo(t, m, op(s), made, l, took)
		}
	}
}

// Over many keys only those of the steps change.
func TestDoOfMany(t *testing.T) {
	r := rand.New(rand.NewSource(102))
	values := map[string]string{}
	for len(values) < 2000 {
		key := make([]byte, 1+r.Intn(api.MaxKey))
		r.Read(key)
		values[string(key)] = pick(r, few)
	}
	m := inOrder(values)
	for range 50 {
		one, other := pick(r, m), pick(r, m)
		for _, o := range []api.Op{op(put(one.Key, "!"), del(other.Key)), op(del(one.Key), add(one.Key, 3), put("new", "")), under(op(cas(one.Key, one.Value, "!"), add(other.Key, 1)), guard(api.Equals, other.Key, other.Value)), op(put(one.Key, "!"), add("no number", 1), cas("no number", "2", ""))} {
			made, l, took := reckonDo(m, o)
			checkDo(t, m, o, made, l, took)
		}
	}
}

// What is handed in and out

// roomy is a list with spare room behind it, and that room too.
func roomy[T any](l []T, spare T) (list, whole []T) {
	whole = append(slices.Clone(l), spare, spare, spare, spare)
	return whole[:len(l)], whole
}

func TestNothingHandedInIsChanged(t *testing.T) {
	r := rand.New(rand.NewSource(103))
	for range 3000 {
		m, o := randomState(r), randomOp(r)
		if r.Intn(5) == 0 {
			m = pick(r, notStates())
		}
		pairs, allPairs := roomy(m, api.Pair{Key: "spare", Value: "p"})
		guards, allGuards := roomy(o.Guards, api.Guard{Kind: 9, Key: "spare"})
		steps, allSteps := roomy(o.Steps, api.Step{Kind: 9, Key: "spare"})
		keptPairs, keptGuards, keptSteps := slices.Clone(allPairs), slices.Clone(allGuards), slices.Clone(allSteps)
		Do(pairs, api.Op{Guards: guards, Steps: steps})
		for _, g := range guards {
			Holds(pairs, g)
		}
		for _, s := range steps {
			Step(pairs, s)
		}
		if !slices.Equal(allPairs, keptPairs) || !slices.Equal(allGuards, keptGuards) || !slices.Equal(allSteps, keptSteps) {
			t.Fatalf("%q or %#v was changed", m, o)
		}
	}
}

// spoil gives each element of a list, and of its spare room, another value.
func spoil[T any](l []T, other T) {
	l = l[:cap(l)]
	for i := range l {
		l[i] = other
	}
}

// Each answer is there as it was, whatever becomes of what was handed in, and of the others.
func TestNothingIsShared(t *testing.T) {
	r := rand.New(rand.NewSource(104))
	otherPair, otherChange := api.Pair{Key: "other", Value: "!"}, has("other", "!")
	for range 3000 {
		m, o := randomState(r), randomOp(r)
		if len(o.Steps) == 0 {
			o.Steps = append(o.Steps, randomStep(r))
		}
		s := o.Steps[0]
		values := reckoned(m)
		stepTook := reckonStep(values, s)
		stepped := inOrder(values)
		wantState, wantChanges, wantTook := reckonDo(m, o)
		wantState = slices.Clone(wantState)
		one, oneChanges, oneTook := Do(m, o)
		two, twoChanges, _ := Do(m, o)
		three, threeTook := Step(m, s)
		four, _ := Step(m, s)
		spoil(m, otherPair)
		spoil(o.Guards, guard(9, "other", "!"))
		spoil(o.Steps, api.Step{Kind: 9, Key: "other"})
		spoil(two, otherPair)
		spoil(twoChanges, otherChange)
		spoil(four, otherPair)
		if !slices.Equal(one, wantState) || !slices.Equal(oneChanges, wantChanges) || oneTook != wantTook || !slices.Equal(three, stepped) || threeTook != stepTook {
			t.Fatalf("an answer was changed: %q, %#v, %v, %q, %v", one, oneChanges, oneTook, three, threeTook)
		}
		spoil(one, otherPair)
		if !slices.Equal(oneChanges, wantChanges) || !slices.Equal(three, stepped) {
			t.Fatalf("an answer was changed: %#v, %q", oneChanges, three)
		}
	}
}

// What was answered before hangs on nothing that is asked later.
func TestNothingIsKept(t *testing.T) {
	m, o := row("a", "1", "n", "5"), under(op(add("n", 1), cas("a", "1", "2")), guard(api.Equals, "a", "1"))
	for range 3 {
		checkDo(t, m, o, row("a", "2", "n", "6"), changes(has("a", "2"), has("n", "6")), true)
		checkStep(t, m, o.Steps[0], row("a", "1", "n", "6"), true)
		checkHolds(t, m, o.Guards[0], true)
		checkDo(t, row("a", "3"), o, row("a", "3"), nil, false)
		checkStep(t, nil, o.Steps[1], nil, false)
		checkDo(t, row("a", "1"), o, row("a", "2", "n", "1"), changes(has("a", "2"), has("n", "1")), true)
	}
	m[1].Value, o.Guards[0].Kind, o.Guards[0].Value, o.Steps[1].Value = "-1", api.Has, "", "3"
	checkDo(t, m, o, row("a", "3", "n", "0"), changes(has("a", "3"), has("n", "0")), true)
	checkStep(t, m, o.Steps[0], row("a", "1", "n", "0"), true)
	checkHolds(t, m, o.Guards[0], true)
}
