package fold

import (
	"math"
	"math/rand"
	"slices"
	"strings"
	"testing"

	"philtre/api"
	"philtre/apply"
	"philtre/state"
)

// row makes a row of keys and their values, in turn.
func row(texts ...string) []api.Pair {
	var m []api.Pair
	for i := 0; i < len(texts); i += 2 {
		m = append(m, api.Pair{Key: texts[i], Value: texts[i+1]})
	}
	return m
}

func has(key, value string) api.Change { return api.Change{Key: key, Has: true, Value: value} }

func lacks(key string) api.Change { return api.Change{Key: key} }

func put(key, value string) api.Step { return api.Step{Kind: api.Put, Key: key, Value: value} }

func del(key string) api.Step { return api.Step{Kind: api.Delete, Key: key} }

func add(key string, n int64) api.Step { return api.Step{Kind: api.Add, Key: key, N: n} }

func cas(key, old, value string) api.Step {
	return api.Step{Kind: api.Cas, Key: key, Old: old, Value: value}
}

// entry is an operation without guards.
func entry(steps ...api.Step) api.Entry { return api.Entry{Op: api.Op{Steps: steps}} }

// under is the entry under guards.
func under(e api.Entry, guards ...api.Guard) api.Entry {
	e.Op.Guards = guards
	return e
}

// entries gives each entry a name of its own.
func entries(l ...api.Entry) []api.Entry {
	for i := range l {
		l[i].Id = api.Id{Seq: i + 1}
	}
	return l
}

// told is what Steps tells of an entry.
type told struct {
	changes []api.Change
	took    bool
}

func takes(l ...api.Change) told { return told{l, true} }

var refused = told{}

func sameTold(a, b told) bool { return a.took == b.took && slices.Equal(a.changes, b.changes) }

// tell is all that Steps tells.
func tell(m []api.Pair, l []api.Entry) []told {
	var all []told
	for changes, took := range Steps(m, l) {
		all = append(all, told{changes, took})
	}
	return all
}

func checkOn(t *testing.T, m []api.Pair, l []api.Entry, want []api.Pair) {
	t.Helper()
	if made := On(m, l); !slices.Equal(made, want) {
		t.Errorf("%#v on %q: %q, not %q", l, m, made, want)
	}
}

func checkSteps(t *testing.T, m []api.Pair, l []api.Entry, want ...told) {
	t.Helper()
	if all := tell(m, l); !slices.EqualFunc(all, want, sameTold) {
		t.Errorf("steps of %#v on %q: %#v, not %#v", l, m, all, want)
	}
}

func checkTook(t *testing.T, l []api.Entry, want ...int) {
	t.Helper()
	if places := Took(l); !slices.Equal(places, want) {
		t.Errorf("of %#v take %v, not %v", l, places, want)
	}
}

func long(n int) string { return strings.Repeat("k", n) }

// notStates are rows whose keys don't rise strictly.
func notStates() [][]api.Pair {
	return [][]api.Pair{
		row("k", "1", "k", "1"), row("k", "1", "k", "2"), row("k", "1", "a", "1"), row("", "1", "", "1"), row("k", "1", "", "1"), row("\xff", "1", "k", "1"),
		row("a", "1", "k", "1", "k", "1"), row("a", "1", "a", "1", "k", "1"), row("k", "1", "a", "1", "z", "1"), row("a", "1", "z", "1", "k", "1"),
	}
}

// refusals are operations that are refused of each state in which n is 5, x is no number's text, and none is no key.
func refusals() []api.Entry {
	right := put("n", "9")
	return []api.Entry{
		under(entry(right), api.Guard{Kind: api.Has, Key: "none"}), under(entry(right), api.Guard{Kind: api.Lacks, Key: "n"}), under(entry(right), api.Guard{Kind: api.Equals, Key: "n", Value: "6"}), under(entry(right), api.Guard{Kind: api.Equals, Key: "none"}),
		under(entry(right), api.Guard{Kind: api.Has, Key: "n"}, api.Guard{Kind: api.Has, Key: "none"}),
		entry(add("x", 1)), entry(add("n", math.MaxInt64)), entry(cas("n", "6", "7")), entry(cas("none", "", "7")),
		entry(right, add("x", 1)), entry(put("none", "1"), cas("none", "2", "3")), entry(del("n"), cas("n", "5", "6")), entry(del("x"), put("none", ""), add("n", math.MaxInt64)), entry(right, right, right, cas("n", "5", "6")),
		entry(), {}, entry(right, right, right, right, right), under(entry(right), slices.Repeat([]api.Guard{{Kind: api.Has, Key: "n"}}, 5)...),
		entry(put(long(api.MaxKey+1), "")), entry(put("n", long(api.MaxValue+1))), entry(api.Step{Kind: api.Put, Key: "n", N: 1}), entry(api.Step{Key: "n"}), entry(api.Step{Kind: 5, Key: "n"}), under(entry(right), api.Guard{Kind: api.Has, Key: "n", Value: "5"}), under(entry(right), api.Guard{Kind: 4, Key: "n"}),
	}
}

// P11.1

func TestExample(t *testing.T) {
	l := entries(entry(add("n", 5)), entry(cas("n", "5", "x")), entry(add("n", 1)))
	checkOn(t, nil, l, row("n", "x"))
	if made := All(l); !slices.Equal(made, row("n", "x")) {
		t.Errorf("%q", made)
	}
	checkSteps(t, nil, l, takes(has("n", "5")), takes(has("n", "x")), refused)
	checkTook(t, l, 0, 1)
	checkOn(t, row("n", "-5", "o", "1"), l, row("n", "1", "o", "1"))
	checkSteps(t, row("n", "-5", "o", "1"), l, takes(has("n", "0")), refused, takes(has("n", "1")))
}

func TestNoEntries(t *testing.T) {
	for _, l := range [][]api.Entry{nil, {}, make([]api.Entry, 0, 3)} {
		for _, m := range [][]api.Pair{nil, {}, row("", ""), row("a", "1"), row("a", "1", "b", "", "\xff", "x")} {
			checkOn(t, m, l, m)
			checkSteps(t, m, l)
		}
		if made := All(l); len(made) > 0 {
			t.Errorf("of nothing: %q", made)
		}
		checkTook(t, l)
	}
}

func TestOneEntry(t *testing.T) {
	m := row("b", "1", "d", "x")
	for _, c := range []struct {
		e    api.Entry
		want []api.Pair
		told told
	}{
		{entry(put("a", "0")), row("a", "0", "b", "1", "d", "x"), takes(has("a", "0"))},
		{entry(put("b", "")), row("b", "", "d", "x"), takes(has("b", ""))},
		{entry(put("b", "1")), m, takes()},
		{entry(del("b")), row("d", "x"), takes(lacks("b"))},
		{entry(del("c")), m, takes()},
		{entry(add("b", 0)), m, takes()},
		{entry(add("b", -2)), row("b", "-1", "d", "x"), takes(has("b", "-1"))},
		{entry(add("e", 3)), row("b", "1", "d", "x", "e", "3"), takes(has("e", "3"))},
		{entry(cas("d", "x", "y")), row("b", "1", "d", "y"), takes(has("d", "y"))},
		{entry(del("d"), put("a", "0"), del("b")), row("a", "0"), takes(has("a", "0"), lacks("b"), lacks("d"))},
		{under(entry(del("b"), del("d")), api.Guard{Kind: api.Equals, Key: "b", Value: "1"}), nil, takes(lacks("b"), lacks("d"))},
		{under(entry(del("b")), api.Guard{Kind: api.Lacks, Key: "b"}), m, refused},
		{entry(add("d", 1)), m, refused},
		{entry(cas("c", "", "")), m, refused},
		{entry(), m, refused},
	} {
		checkOn(t, m, entries(c.e), c.want)
		checkSteps(t, m, entries(c.e), c.told)
	}
}

// Each entry finds what those ahead of it made.
func TestEntriesBuild(t *testing.T) {
	l := entries(entry(put("k", "5")), entry(add("k", 6)), entry(del("k")), entry(put("k", "x")), entry(cas("k", "x", "y")), under(entry(put("l", "1")), api.Guard{Kind: api.Equals, Key: "k", Value: "y"}))
	checkOn(t, nil, l, row("k", "y", "l", "1"))
	checkSteps(t, nil, l, takes(has("k", "5")), takes(has("k", "11")), takes(lacks("k")), takes(has("k", "x")), takes(has("k", "y")), takes(has("l", "1")))
	checkTook(t, l, 0, 1, 2, 3, 4, 5)
	for n, want := range [][]api.Pair{nil, row("k", "5"), row("k", "11"), nil, row("k", "x"), row("k", "y"), row("k", "y", "l", "1")} {
		checkOn(t, nil, l[:n], want)
		checkOn(t, row("a", "0"), l[:n], slices.Concat(row("a", "0"), want))
		if n > 0 {
			checkOn(t, row("k", "?"), l[:n], want)
		}
	}
	m := row("a", "1", "b", "2")
	checkSteps(t, m, entries(entry(del("a")), entry(del("a")), entry(del("b")), entry(put("b", "2"))), takes(lacks("a")), takes(), takes(lacks("b")), takes(has("b", "2")))
	checkOn(t, m, entries(entry(del("a")), entry(del("a")), entry(del("b")), entry(put("b", "2"))), row("b", "2"))
	checkOn(t, m, entries(entry(put("b", "3")), entry(put("b", "2"))), m)
	checkSteps(t, m, entries(entry(put("b", "3")), entry(put("b", "2"))), takes(has("b", "3")), takes(has("b", "2")))
	checkOn(t, nil, entries(slices.Repeat([]api.Entry{entry(add("n", 3))}, 200)...), row("n", "600"))
}

// An entry that is refused changes nothing for those behind it, wherever it stands.
func TestRefused(t *testing.T) {
	m := row("n", "5", "x", "no")
	right := []api.Entry{entry(put("a", "1")), entry(add("a", 1)), entry(del("a"))}
	makes := [][]api.Pair{m, row("a", "1", "n", "5", "x", "no"), row("a", "2", "n", "5", "x", "no"), m}
	tells := []told{takes(has("a", "1")), takes(has("a", "2")), takes(lacks("a"))}
	// Took begins from no keys: the first entry makes m of these.
	first := entry(put("n", "5"), put("x", "no"))
	for _, wrong := range refusals() {
		for n := range len(right) + 1 {
			for at := range n + 1 {
				l := slices.Insert(slices.Clone(right[:n]), at, wrong)
				checkOn(t, m, entries(l...), makes[n])
				checkSteps(t, m, entries(l...), slices.Insert(slices.Clone(tells[:n]), at, refused)...)
				fromNone, places := slices.Insert(l, 0, first), []int{0, 1, 2, 3, 4}[:n+2]
				checkTook(t, entries(fromNone...), slices.Delete(places, at+1, at+2)...)
			}
		}
		checkOn(t, m, entries(wrong), m)
		checkOn(t, m, entries(wrong, wrong, wrong), m)
		checkSteps(t, m, entries(wrong, wrong, wrong), refused, refused, refused)
	}
	checkOn(t, m, entries(refusals()...), m)
	checkSteps(t, m, entries(refusals()...), make([]told, len(refusals()))...)
}

// Of an entry whose first step takes and whose second one is refused nothing stays, and those behind it don't find it.
func TestRefusedInTheMidst(t *testing.T) {
	l := entries(entry(put("a", "1")), entry(put("a", "2"), cas("a", "1", "3")), entry(cas("a", "1", "4")), entry(del("a"), add("b", 1), cas("c", "", "")), entry(add("b", 7)))
	checkOn(t, nil, l, row("a", "4", "b", "7"))
	checkSteps(t, nil, l, takes(has("a", "1")), refused, takes(has("a", "4")), refused, takes(has("b", "7")))
	checkTook(t, l, 0, 2, 4)
}

func TestNoState(t *testing.T) {
	rows := [][]api.Entry{nil, {}, entries(entry(put("k", "2"))), entries(entry(del("k"))), entries(entry(del("k"), del("a"), del("z"), del("")), entry(put("a", "1"))), entries(entry()), entries(refusals()...)}
	for _, m := range notStates() {
		for _, l := range rows {
			if made := On(m, l); len(made) > 0 {
				t.Errorf("%#v on %q, which is no state: %q", l, m, made)
			}
			seq := Steps(m, l)
			if seq == nil {
				t.Fatalf("steps of %#v on %q are nil", l, m)
			}
			for changes, took := range seq {
				t.Errorf("%#v on %q, which is no state: %#v, %v", l, m, changes, took)
			}
		}
	}
}

func TestStepsIsNeverNil(t *testing.T) {
	for _, m := range append(notStates(), nil, row("a", "1")) {
		for _, l := range [][]api.Entry{nil, {}, entries(entry(put("k", "2")))} {
			if Steps(m, l) == nil {
				t.Errorf("steps of %#v on %q are nil", l, m)
			}
		}
	}
}

func TestTook(t *testing.T) {
	yes, no := entry(add("n", 1)), entry(cas("none", "", ""))
	checkTook(t, entries(yes), 0)
	checkTook(t, entries(no))
	checkTook(t, entries(no, no, no))
	checkTook(t, entries(yes, yes, yes), 0, 1, 2)
	checkTook(t, entries(yes, no, no), 0)
	checkTook(t, entries(no, yes, no), 1)
	checkTook(t, entries(no, no, yes), 2)
	checkTook(t, entries(yes, no, yes), 0, 2)
	checkTook(t, entries(no, yes, yes), 1, 2)
	checkTook(t, entries(entry(del("k")), entry(put("k", "1"), del("k")), no, entry(add("n", 0), del("n"))), 0, 1, 3)
	checkTook(t, entries(entry(cas("n", "1", "2")), yes, entry(cas("n", "1", "2")), entry(cas("n", "1", "2"))), 1, 2)
	var many []api.Entry
	var want []int
	for i := range 300 {
		many = append(many, []api.Entry{no, yes}[i%2])
		if i%2 == 1 {
			want = append(want, i)
		}
	}
	checkTook(t, many, want...)
}

func TestStepsIsLeft(t *testing.T) {
	l := entries(entry(put("a", "1")), entry(cas("a", "0", "2")), entry(put("a", "1")), entry(del("a")))
	want := []told{takes(has("a", "1")), refused, takes(), takes(lacks("a"))}
	seq := Steps(nil, l)
	for most := 1; most <= len(l); most++ {
		var all []told
		seq(func(changes []api.Change, took bool) bool {
			all = append(all, told{changes, took})
			return len(all) < most
		})
		if !slices.EqualFunc(all, want[:most], sameTold) {
			t.Errorf("left behind %d: %#v", most, all)
		}
	}
	checkSteps(t, nil, l, want...)
}

// Behind the entry at which it is left nothing is done any more: each entry that is done takes memory.
func TestNothingIsDoneBehind(t *testing.T) {
	l := entries(slices.Repeat([]api.Entry{entry(put("a", "1"), add("b", 1), put("c", "2"), del("c"))}, 200)...)
	seq := Steps(row("a", "0"), l)
	leave := func(most int) float64 {
		return testing.AllocsPerRun(5, func() {
			n := 0
			for range seq {
				if n++; n == most {
					break
				}
			}
		})
	}
	if one, ten, all := leave(1), leave(10), leave(len(l)); one*5 > ten || ten*10 > all {
		t.Errorf("left behind 1, 10 and all of them it takes %v, %v and %v pieces of memory", one, ten, all)
	}
}

// What Steps hands out begins at the first entry each time, also while another one is at it.
func TestStepsAgain(t *testing.T) {
	l := entries(entry(add("n", 1)), entry(cas("n", "1", "2")), entry(cas("n", "1", "3")), entry(add("n", 5)))
	want := []told{takes(has("n", "1")), takes(has("n", "2")), refused, takes(has("n", "7"))}
	seq := Steps(nil, l)
	at := 0
	for changes, took := range seq {
		inner := 0
		for c, is := range seq {
			if !sameTold(told{c, is}, want[inner]) {
				t.Errorf("within: at %d %#v, %v", inner, c, is)
			}
			inner++
		}
		if !sameTold(told{changes, took}, want[at]) || inner != len(want) {
			t.Errorf("at %d %#v, %v, and %d within", at, changes, took, inner)
		}
		at++
	}
	if at != len(want) {
		t.Errorf("%d were told", at)
	}
	for range seq {
		break
	}
	at = 0
	for changes, took := range seq {
		if !sameTold(told{changes, took}, want[at]) {
			t.Errorf("again: at %d %#v, %v", at, changes, took)
		}
		at++
	}
}

func TestNamesDoNotMatter(t *testing.T) {
	m := row("a", "1", "n", "5")
	l := entries(entry(add("n", 1)), entry(cas("a", "2", "3")), entry(del("a")), entry(put("b", "")), entry(cas("none", "", "")))
	ids := [][]api.Id{
		make([]api.Id, 5),
		{{Seq: 1}, {Seq: 1}, {Seq: 1}, {Seq: 1}, {Seq: 1}},
		{{Seq: 5}, {Seq: 4}, {Seq: 3}, {Seq: 2}, {Seq: 1}},
		{{Origin: 255, Seq: 1 << 32}, {Origin: 256, Seq: 1}, {Origin: -1, Seq: -1}, {Origin: 0, Seq: 1<<32 + 1}, {Origin: math.MinInt, Seq: math.MaxInt}},
		{{Origin: 1, Seq: 1}, {Origin: 2, Seq: 1}, {Origin: 1, Seq: 1}, {Origin: 0, Seq: 0}, {Origin: 2, Seq: 1}},
	}
	made, steps, all, took := On(m, l), tell(m, l), All(l), Took(l)
	checkOn(t, m, l, row("b", "", "n", "6"))
	for _, names := range ids {
		named := slices.Clone(l)
		for i := range named {
			named[i].Id = names[i]
		}
		checkOn(t, m, named, made)
		checkSteps(t, m, named, steps...)
		checkTook(t, named, took...)
		if other := All(named); !slices.Equal(other, all) {
			t.Errorf("by the names %v: %q, not %q", names, other, all)
		}
	}
}

// few are texts for keys (the first four, which rise) and values that come again and again, so that guards hold and steps are refused in about equal parts.
var few = []string{"", "a", "b", "n", "0", "-1", "7", "9223372036854775807", "x"}

func pick[T any](r *rand.Rand, l []T) T { return l[r.Intn(len(l))] }

func randomState(r *rand.Rand) []api.Pair {
	var m []api.Pair
	for _, key := range few[:4] {
		if r.Intn(2) == 0 {
			m = append(m, api.Pair{Key: key, Value: pick(r, few)})
		}
	}
	return m
}

func randomStep(r *rand.Rand) api.Step {
	key := pick(r, few[:4])
	switch r.Intn(5) {
	case 0:
		return del(key)
	case 1, 2:
		return add(key, pick(r, []int64{0, 1, -1, 5, math.MinInt64, math.MaxInt64, int64(r.Uint64())}))
	case 3:
		return cas(key, pick(r, few), pick(r, few))
	}
	return put(key, pick(r, few))
}

func randomEntry(r *rand.Rand) api.Entry {
	if r.Intn(20) == 0 {
		return pick(r, refusals())
	}
	e := api.Entry{Id: api.Id{Origin: r.Intn(3), Seq: r.Intn(9)}}
	for range r.Intn(3) * r.Intn(2) {
		e.Op.Guards = append(e.Op.Guards, api.Guard{Kind: 1 + r.Intn(2), Key: pick(r, few[:4])})
	}
	for range 1 + r.Intn(2)*r.Intn(4) {
		e.Op.Steps = append(e.Op.Steps, randomStep(r))
	}
	return e
}

func randomEntries(r *rand.Rand, most int) []api.Entry {
	var l []api.Entry
	for range r.Intn(most + 1) {
		l = append(l, randomEntry(r))
	}
	return l
}

// reckon is what entries make of a state by Do, entry by entry, what changes on the way, and which places take.
func reckon(m []api.Pair, l []api.Entry) (made []api.Pair, all []told, places []int) {
	made = slices.Clone(m)
	for i, e := range l {
		next, changes, took := apply.Do(made, e.Op)
		if took {
			places = append(places, i)
		}
		all = append(all, told{changes, took})
		made = next
	}
	return made, all, places
}

func TestReckoned(t *testing.T) {
	r := rand.New(rand.NewSource(111))
	var took, changed, every int
	for range 4000 {
		m, l := randomState(r), randomEntries(r, 12)
		made, all, _ := reckon(m, l)
		checkOn(t, m, l, made)
		checkSteps(t, m, l, all...)
		for _, one := range all {
			every++
			if one.took {
				took++
			}
			if len(one.changes) > 0 {
				changed++
			}
		}
		made, all, places := reckon(nil, l)
		checkSteps(t, nil, l, all...)
		checkTook(t, l, places...)
		if other := All(l); !slices.Equal(other, made) {
			t.Errorf("all of %#v: %q, not %q", l, other, made)
		}
		checkOn(t, []api.Pair{}, l, made)
		if t.Failed() {
			return
		}
	}
	if took < every/4 || every-took < every/4 || changed < every/5 || took-changed < every/40 {
		t.Errorf("of %d took %d and changed %d: too few of one sort", every, took, changed)
	}
}

// P11.2

func TestParts(t *testing.T) {
	r := rand.New(rand.NewSource(112))
	for range 1500 {
		m, l := randomState(r), randomEntries(r, 8)
		whole, all := On(m, l), tell(m, l)
		for cut := range len(l) + 1 {
			made := On(m, l[:cut])
			checkOn(t, made, l[cut:], whole)
			if parts := slices.Concat(tell(m, l[:cut]), tell(made, l[cut:])); !slices.EqualFunc(parts, all, sameTold) {
				t.Errorf("%#v on %q, cut at %d: %#v, not %#v", l, m, cut, parts, all)
			}
			patched := m
			for _, one := range all[:cut] {
				patched = state.Patch(patched, one.changes)
			}
			if !slices.Equal(patched, made) {
				t.Errorf("%#v on %q: by their changes %q, not %q", l[:cut], m, patched, made)
			}
			if !state.Right(made) {
				t.Errorf("%#v on %q: %q is no state", l[:cut], m, made)
			}
		}
		var places []int
		at := 0
		for _, took := range Steps(nil, l) {
			if took {
				places = append(places, at)
			}
			at++
		}
		checkTook(t, l, places...)
		if t.Failed() {
			return
		}
	}
}

// What is handed in and out

// roomy is a list with spare room behind it, and that room too.
func roomy[T any](l []T, spare T) (list, whole []T) {
	whole = append(slices.Clone(l), spare, spare, spare, spare)
	return whole[:len(l)], whole
}

func sameEntry(a, b api.Entry) bool {
	return a.Id == b.Id && slices.Equal(a.Op.Guards, b.Op.Guards) && slices.Equal(a.Op.Steps, b.Op.Steps)
}

// deep is entries in memory of their own, each list with its spare room.
func deep(l []api.Entry) []api.Entry {
	own := slices.Clone(l)
	for i := range own {
		own[i].Op.Guards = slices.Clone(own[i].Op.Guards[:cap(own[i].Op.Guards)])
		own[i].Op.Steps = slices.Clone(own[i].Op.Steps[:cap(own[i].Op.Steps)])
	}
	return own
}

func TestNothingHandedInIsChanged(t *testing.T) {
	r := rand.New(rand.NewSource(114))
	for range 1500 {
		m, l := randomState(r), randomEntries(r, 6)
		if r.Intn(5) == 0 {
			m = pick(r, notStates())
		}
		for i := range l {
			l[i].Op.Guards, _ = roomy(l[i].Op.Guards, api.Guard{Kind: 9, Key: "spare"})
			l[i].Op.Steps, _ = roomy(l[i].Op.Steps, api.Step{Kind: 9, Key: "spare"})
		}
		pairs, allPairs := roomy(m, api.Pair{Key: "spare", Value: "p"})
		given, allGiven := roomy(l, entry(put("spare", "s")))
		keptPairs, keptGiven := slices.Clone(allPairs), deep(allGiven)
		On(pairs, given)
		All(given)
		Took(given)
		for range Steps(pairs, given) {
		}
		for range Steps(pairs, given) {
			break
		}
		if !slices.Equal(allPairs, keptPairs) || !slices.EqualFunc(deep(allGiven), keptGiven, sameEntry) {
			t.Fatalf("%q or %#v was changed", m, l)
		}
	}
}

// spoil gives each element of a list, and of its spare room, another value.
func spoil[T any](l []T, other T) {
	l = l[:cap(l)]
	for i := range l {
		l[i] = other
	}
}

// spoilEntries does so with entries, down to the parts of their operations.
func spoilEntries(l []api.Entry) {
	for _, e := range l {
		spoil(e.Op.Guards, api.Guard{Kind: 9, Key: "other"})
		spoil(e.Op.Steps, put("other", "!"))
	}
	spoil(l, entry(put("other", "?")))
}

// Each answer is there as it was, whatever becomes of what was handed in, and of the others.
func TestNothingIsShared(t *testing.T) {
	r := rand.New(rand.NewSource(115))
	otherPair, otherChange := api.Pair{Key: "other", Value: "!"}, has("other", "!")
	for range 1500 {
		m, l := randomState(r), deep(randomEntries(r, 6))
		made, all, _ := reckon(m, l)
		fromNone, _, places := reckon(nil, l)
		one, two, three, four, took, tookToo := On(m, l), On(m, l), All(l), All(l), Took(l), Took(l)
		steps, stepsToo := tell(m, l), tell(m, l)
		spoil(m, otherPair)
		spoilEntries(l)
		spoil(two, otherPair)
		spoil(four, otherPair)
		spoil(tookToo, 99)
		for _, s := range stepsToo {
			spoil(s.changes, otherChange)
		}
		if !slices.Equal(one, made) || !slices.Equal(three, fromNone) || !slices.Equal(took, places) || !slices.EqualFunc(steps, all, sameTold) {
			t.Fatalf("an answer was changed: %q, %q, %v, %#v", one, three, took, steps)
		}
		spoil(one, otherPair)
		spoil(three, otherPair)
		if !slices.EqualFunc(steps, all, sameTold) {
			t.Fatalf("an answer was changed: %#v", steps)
		}
		for i := range steps {
			spoil(steps[i].changes, otherChange)
			if !slices.EqualFunc(steps[i+1:], all[i+1:], sameTold) {
				t.Fatalf("an answer was changed: %#v", steps[i+1:])
			}
		}
	}
}

// The state that no entry changes is another one's memory all the same.
func TestStateOfNoEntriesIsNew(t *testing.T) {
	for _, l := range [][]api.Entry{nil, entries(entry()), entries(entry(del("none")))} {
		m, _ := roomy(row("a", "1", "b", "2"), api.Pair{Key: "spare"})
		made := On(m, l)
		spoil(made, api.Pair{Key: "other"})
		if !slices.Equal(m, row("a", "1", "b", "2")) {
			t.Errorf("the state handed in was changed by way of the answer: %q", m)
		}
		made = On(m, l)
		spoil(m, api.Pair{Key: "other"})
		if !slices.Equal(made, row("a", "1", "b", "2")) {
			t.Errorf("the answer was changed by way of the state handed in: %q", made)
		}
	}
}

// What Steps hands out hangs on what was handed in as it was then, and on nothing that becomes of it, or of what is told.
func TestStepsKeepsNothing(t *testing.T) {
	r := rand.New(rand.NewSource(116))
	otherPair, otherChange := api.Pair{Key: "other", Value: "!"}, has("other", "!")
	for range 1500 {
		m, l := randomState(r), deep(randomEntries(r, 6))
		_, all, _ := reckon(m, l)
		seq, during := Steps(m, l), Steps(m, l)
		when := r.Intn(len(l) + 1)
		at := 0
		for changes, took := range during {
			if !sameTold(told{changes, took}, all[at]) {
				t.Fatalf("at %d: %#v, %v, not %#v", at, changes, took, all[at])
			}
			if at++; at == when {
				spoil(m, otherPair)
				spoilEntries(l)
			}
			spoil(changes, otherChange)
		}
		spoil(m, otherPair)
		spoilEntries(l)
		for range 2 {
			at = 0
			for changes, took := range seq {
				if !sameTold(told{changes, took}, all[at]) {
					t.Fatalf("at %d: %#v, %v, not %#v", at, changes, took, all[at])
				}
				spoil(changes, otherChange)
				at++
			}
			if at != len(all) {
				t.Fatalf("%d of %d were told", at, len(all))
			}
		}
	}
	m := row("b", "1", "a", "1")
	seq := Steps(m, entries(entry(del("a"))))
	m[0].Key = ""
	for range seq {
		t.Error("a row that was no state became one behind the call")
	}
}
