package model

import (
	"encoding/binary"
	"fmt"
	"maps"
	"math/big"
	"regexp"
	"slices"
	"strings"
	"testing"

	"philtre/api"
	"philtre/batch"
	"philtre/fold"
	"philtre/opcode"
)

// book is a model as it is reckoned here: the entries alone are kept, and the state is made anew of them each time, in maps of Go's own.
type book struct {
	c             api.Config
	done, waits   []api.Entry
	issued, given int
	lookers       []*looker
}

// looker is a watcher: all that came to it and was not taken yet.
type looker struct {
	number int
	prefix string
	came   []api.Change
	over   bool
}

// ask is a call, and what its text says: readable, if that is an operation's or a batch's bytes.
type ask struct {
	call     api.Call
	readable bool
	op       api.Op
	l        []api.Entry
}

// within is n, but least if it is below, and most if it is above.
func within(n, least, most int) int {
	switch {
	case n < least:
		return least
	case n > most:
		return most
	}
	return n
}

// What each kind of guards and of steps has, beside a key.
var (
	guardHas = map[int]struct{ value bool }{1: {}, 2: {}, 3: {value: true}}
	stepHas  = map[int]struct{ value, old, n bool }{1: {value: true}, 2: {}, 3: {n: true}, 4: {value: true, old: true}}
)

func mayBe(o api.Op) bool {
	may := len(o.Guards) < 5 && len(o.Steps) > 0 && len(o.Steps) < 5
	for _, g := range o.Guards {
		has, known := guardHas[g.Kind]
		may = may && known && len(g.Key) < 17 && len(g.Value) < 33 && (has.value || g.Value == "")
	}
	for _, s := range o.Steps {
		has, known := stepHas[s.Kind]
		may = may && known && len(s.Key) < 17 && len(s.Value) < 33 && len(s.Old) < 33
		may = may && (has.value || s.Value == "") && (has.old || s.Old == "") && (has.n || s.N == 0)
	}
	return may
}

func mayBeBatch(l []api.Entry) bool {
	if len(l) > 16 {
		return false
	}
	seen := map[api.Id]bool{}
	for _, e := range l {
		if e.Id.Origin < 0 || e.Id.Origin > 255 || e.Id.Seq < 1 || e.Id.Seq > 4294967296 || seen[e.Id] || !mayBe(e.Op) {
			return false
		}
		seen[e.Id] = true
	}
	return true
}

var aNumber = regexp.MustCompile(`^(0|-?[1-9][0-9]*)$`)

// sum is the text of a number's text and n together; false, if there is none.
func sum(text string, n int64) (string, bool) {
	if !aNumber.MatchString(text) {
		return "", false
	}
	was, _ := new(big.Int).SetString(text, 10)
	is := new(big.Int).Add(was, big.NewInt(n))
	return is.String(), was.IsInt64() && is.IsInt64()
}

// run is what an operation makes of a state: it itself, and false, if the operation is refused.
func run(m map[string]string, o api.Op) (map[string]string, bool) {
	for _, g := range o.Guards {
		value, has := m[g.Key]
		if g.Kind == 1 && !has || g.Kind == 2 && has || g.Kind == 3 && (!has || value != g.Value) {
			return m, false
		}
	}
	next := maps.Clone(m)
	for _, s := range o.Steps {
		value, has := next[s.Key]
		switch s.Kind {
		case 1:
			next[s.Key] = s.Value
		case 2:
			delete(next, s.Key)
		case 3:
			if !has {
				value = "0"
			}
			total, is := sum(value, s.N)
			if !is {
				return m, false
			}
			next[s.Key] = total
		case 4:
			if !has || value != s.Old {
				return m, false
			}
			next[s.Key] = s.Value
		}
	}
	return next, true
}

// made is what entries make of no keys.
func made(l ...[]api.Entry) map[string]string {
	m := map[string]string{}
	for _, e := range slices.Concat(l...) {
		m, _ = run(m, e.Op)
	}
	return m
}

// pairsOf is the pairs of those keys that begin with a prefix, rising.
func pairsOf(m map[string]string, prefix string) []api.Pair {
	var l []api.Pair
	for _, key := range slices.Sorted(maps.Keys(m)) {
		if begins(key, prefix) {
			l = append(l, api.Pair{Key: key, Value: m[key]})
		}
	}
	return l
}

func begins(key, prefix string) bool {
	return len(key) >= len(prefix) && key[:len(prefix)] == prefix
}

// between is what changes from a to b, by rising keys.
func between(a, b map[string]string) []api.Change {
	keys := slices.Concat(slices.Collect(maps.Keys(a)), slices.Collect(maps.Keys(b)))
	slices.Sort(keys)
	var l []api.Change
	for _, key := range slices.Compact(keys) {
		was, had := a[key]
		is, has := b[key]
		if had != has || was != is {
			l = append(l, api.Change{Key: key, Has: has, Value: is})
		}
	}
	return l
}

func (k *book) state() map[string]string { return made(k.done, k.waits) }

// turned tells what changed from a state on, and the lookers of it.
func (k *book) turned(from map[string]string) []api.Change {
	l := between(from, k.state())
	for _, w := range k.lookers {
		for _, c := range l {
			switch {
			case !begins(c.Key, w.prefix) || w.over:
			case len(w.came) == within(k.c.Queue, 0, 64):
				w.over = true
			default:
				w.came = append(w.came, c)
			}
		}
	}
	return l
}

func (k *book) enter(o api.Op) (api.Reply, []api.Change) {
	if !mayBe(o) {
		return api.Reply{Code: 8}, nil
	}
	if len(k.waits) == within(k.c.Cap, 0, 32) {
		return api.Reply{Code: 7}, nil
	}
	was := k.state()
	k.issued++
	_, took := run(was, o)
	k.waits = append(k.waits, copyOf(api.Entry{Id: api.Id{Seq: k.issued}, Op: o}))
	return api.Reply{Id: api.Id{Seq: k.issued}, Took: took}, k.turned(was)
}

func (k *book) would(start int, l []api.Entry) api.Code {
	if !mayBeBatch(l) {
		return 9
	}
	if start != len(k.done) {
		return 10
	}
	for _, e := range l {
		for _, d := range k.done {
			if d.Id == e.Id {
				return 9
			}
		}
		if e.Id.Origin == 0 && e.Id.Seq > k.issued {
			return 9
		}
	}
	return 0
}

// acked is how many of those that wait have a name of l's.
func (k *book) acked(l []api.Entry) int {
	n := 0
	for _, w := range k.waits {
		if named(l, w.Id) {
			n++
		}
	}
	return n
}

func named(l []api.Entry, id api.Id) bool {
	return slices.ContainsFunc(l, func(e api.Entry) bool { return e.Id == id })
}

func (k *book) merge(start int, l []api.Entry) (api.Reply, []api.Change) {
	if code := k.would(start, l); code != 0 {
		return api.Reply{Code: code}, nil
	}
	was, n := k.state(), k.acked(l)
	k.done = append(k.done, copies(l)...)
	var waits []api.Entry
	for _, w := range k.waits {
		if !named(l, w.Id) {
			waits = append(waits, w)
		}
	}
	k.waits = waits
	return api.Reply{N: n}, k.turned(was)
}

func (k *book) looker(number int) *looker {
	for _, w := range k.lookers {
		if w.number == number {
			return w
		}
	}
	return nil
}

func (k *book) do(a ask) (api.Reply, []api.Change) {
	c := a.call
	w := k.looker(c.N)
	switch {
	case c.Kind < 1 || c.Kind > 9 || c.Kind == 1 && !a.readable:
		return api.Reply{Code: 8}, nil
	case c.Kind == 1:
		return k.enter(a.op)
	case c.Kind == 2:
		value, has := k.state()[c.Text]
		return api.Reply{Took: has, Value: value}, nil
	case c.Kind == 3:
		return api.Reply{Pairs: pairsOf(k.state(), "")}, nil
	case c.Kind == 4 && !a.readable:
		return api.Reply{Code: 9}, nil
	case c.Kind == 4:
		return k.merge(c.Start, a.l)
	case c.Kind == 5 && len(k.lookers) == within(k.c.Watchers, 0, 8):
		return api.Reply{Code: 13}, nil
	case c.Kind == 5:
		k.given++
		k.lookers = append(k.lookers, &looker{number: k.given, prefix: c.Text})
		return api.Reply{N: k.given}, nil
	case c.Kind == 9:
		return api.Reply{}, nil
	case w == nil:
		return api.Reply{Code: 12}, nil
	case c.Kind == 6 && w.over && len(w.came) == 0:
		return api.Reply{Code: 14}, nil
	case c.Kind == 6:
		n := within(c.Start, 0, len(w.came))
		taken := slices.Clone(w.came[:n])
		w.came = slices.Clone(w.came[n:])
		return api.Reply{Changes: taken}, nil
	case c.Kind == 7:
		k.lookers = slices.DeleteFunc(k.lookers, func(l *looker) bool { return l == w })
		return api.Reply{}, nil
	}
	w.came, w.over = nil, false
	return api.Reply{Pairs: pairsOf(k.state(), w.prefix)}, nil
}

// Texts of what is told: of two things the same just where they are the same.

func toldEntries(l []api.Entry) string {
	var b strings.Builder
	for _, e := range l {
		fmt.Fprintf(&b, "%d.%d", e.Id.Origin, e.Id.Seq)
		for _, g := range e.Op.Guards {
			fmt.Fprintf(&b, " guard %d %q %q", g.Kind, g.Key, g.Value)
		}
		for _, s := range e.Op.Steps {
			fmt.Fprintf(&b, " step %d %q %q %q %d", s.Kind, s.Key, s.Value, s.Old, s.N)
		}
		b.WriteString("\n")
	}
	return b.String()
}

func toldPairs(l []api.Pair) string {
	var b strings.Builder
	for _, p := range l {
		fmt.Fprintf(&b, " %q=%q", p.Key, p.Value)
	}
	return b.String()
}

func toldChanges(l []api.Change) string {
	var b strings.Builder
	for _, c := range l {
		fmt.Fprintf(&b, " %q %v %q", c.Key, c.Has, c.Value)
	}
	return b.String()
}

func told(r api.Reply) string {
	return fmt.Sprintf("code %d, %d.%d, took %v, value %q, n %d, pairs%s, changes%s", r.Code, r.Id.Origin, r.Id.Seq, r.Took, r.Value, r.N, toldPairs(r.Pairs), toldChanges(r.Changes))
}

// Memory: copies that share none, lists with spare room, and lists that are stored into as far as their room goes.

func copyOf(e api.Entry) api.Entry {
	e.Op = api.Op{Guards: slices.Clone(e.Op.Guards), Steps: slices.Clone(e.Op.Steps)}
	return e
}

func copies(l []api.Entry) []api.Entry {
	own := make([]api.Entry, 0, len(l))
	for _, e := range l {
		own = append(own, copyOf(e))
	}
	return own
}

func copyOfReply(r api.Reply) api.Reply {
	r.Pairs, r.Changes = slices.Clone(r.Pairs), slices.Clone(r.Changes)
	return r
}

// roomy is a list in memory of its own, with three more things in its spare room.
func roomy[T any](l []T, spare T) []T {
	own := append(append(make([]T, 0, len(l)+3), l...), spare, spare, spare)
	return own[:len(l)]
}

func roomyOp(o api.Op) api.Op {
	return api.Op{Guards: roomy(o.Guards, api.Guard{Kind: api.Has, Key: "spare"}), Steps: roomy(o.Steps, api.Step{Kind: api.Put, Key: "spare", Value: "spare"})}
}

func roomyEntries(l []api.Entry) []api.Entry {
	own := roomy(l, api.Entry{Id: api.Id{Origin: 9, Seq: 9}, Op: api.Op{Steps: []api.Step{{Kind: api.Put, Key: "spare", Value: "spare"}}}})
	for i := range own {
		own[i].Op = roomyOp(own[i].Op)
	}
	return own
}

// whole is entries and their spare room as a text.
func whole(l []api.Entry) string {
	var b strings.Builder
	for _, e := range l[:cap(l)] {
		e.Op.Guards, e.Op.Steps = e.Op.Guards[:cap(e.Op.Guards)], e.Op.Steps[:cap(e.Op.Steps)]
		b.WriteString(toldEntries([]api.Entry{e}))
	}
	return b.String()
}

func spoil[T any](l []T, with T) {
	l = l[:cap(l)]
	for i := range l {
		l[i] = with
	}
}

func spoilOp(o api.Op) {
	spoil(o.Guards, api.Guard{Kind: api.Has, Key: "spoilt"})
	spoil(o.Steps, api.Step{Kind: api.Put, Key: "spoilt", Value: "spoilt"})
}

func spoilEntries(l []api.Entry) {
	for _, e := range l[:cap(l)] {
		spoilOp(e.Op)
	}
	spoil(l, api.Entry{Id: api.Id{Origin: 8, Seq: 8}})
}

func spoilReply(r api.Reply, changes []api.Change) {
	spoil(r.Pairs, api.Pair{Key: "spoilt", Value: "spoilt"})
	spoil(r.Changes, api.Change{Key: "spoilt", Has: true, Value: "spoilt"})
	spoil(changes, api.Change{Key: "spoilt", Has: true, Value: "spoilt"})
}

// both is a model, and what it is reckoned to be. What its calls hand in has spare room, and is stored into behind the call, as is all that they hand out.
type both struct {
	t *testing.T
	m *Model
	k *book
}

func begin(t *testing.T, c api.Config) *both {
	t.Helper()
	b := &both{t, New(c), &book{c: c}}
	b.check()
	return b
}

// check holds all that is told of the model against the book, twice, as what is handed out is stored into.
func (b *both) check() {
	b.t.Helper()
	for range 2 {
		b.checkOnce()
	}
	if state, all := toldPairs(b.m.State()), toldPairs(fold.All(slices.Concat(b.m.Done(), b.m.Waits()))); state != all {
		b.t.Fatalf("the state is%s, not%s", state, all)
	}
}

func (b *both) checkOnce() {
	b.t.Helper()
	state, done, waits, watchers := b.m.State(), b.m.Done(), b.m.Waits(), b.m.Watchers()
	if want := toldPairs(pairsOf(b.k.state(), "")); toldPairs(state) != want {
		b.t.Fatalf("the state is%s, not%s", toldPairs(state), want)
	}
	if toldEntries(done) != toldEntries(b.k.done) {
		b.t.Fatalf("done are\n%s, not\n%s", toldEntries(done), toldEntries(b.k.done))
	}
	if toldEntries(waits) != toldEntries(b.k.waits) {
		b.t.Fatalf("there wait\n%s, not\n%s", toldEntries(waits), toldEntries(b.k.waits))
	}
	var numbers []int
	for _, w := range b.k.lookers {
		numbers = append(numbers, w.number)
	}
	if !slices.Equal(watchers, numbers) || b.m.Issued() != b.k.issued {
		b.t.Fatalf("watchers %v, not %v; %d issued, not %d", watchers, numbers, b.m.Issued(), b.k.issued)
	}
	spoil(state, api.Pair{Key: "spoilt"})
	spoilEntries(done)
	spoilEntries(waits)
	spoil(watchers, 77)
}

// held holds what a call was answered against what it should be, and what changed against the states ahead and behind; it stores into all of it, and tells the reply.
func (b *both) held(ahead []api.Pair, r api.Reply, l []api.Change, want api.Reply, wanted []api.Change) api.Reply {
	b.t.Helper()
	if told(r) != told(want) || toldChanges(l) != toldChanges(wanted) {
		b.t.Fatalf("%s:%s\nnot %s:%s", told(r), toldChanges(l), told(want), toldChanges(wanted))
	}
	m := map[string]string{}
	for _, p := range ahead {
		m[p.Key] = p.Value
	}
	for _, c := range l {
		if m[c.Key] = c.Value; !c.Has {
			delete(m, c.Key)
		}
	}
	if toldPairs(pairsOf(m, "")) != toldPairs(b.m.State()) || r.Code != 0 && len(l) != 0 {
		b.t.Fatalf("%s:%s, of%s to%s", told(r), toldChanges(l), toldPairs(ahead), toldPairs(b.m.State()))
	}
	own := copyOfReply(r)
	spoilReply(r, l)
	b.check()
	return own
}

func (b *both) do(a ask) api.Reply {
	b.t.Helper()
	ahead := b.m.State()
	r, l := b.m.Do(a.call)
	want, wanted := b.k.do(a)
	return b.held(ahead, r, l, want, wanted)
}

func (b *both) enter(o api.Op) api.Reply {
	b.t.Helper()
	o = roomyOp(o)
	l := []api.Entry{{Op: o}}
	was, ahead := whole(l), b.m.State()
	r, changes := b.m.Enter(o)
	if whole(l) != was {
		b.t.Fatalf("handed in was\n%s, and is\n%s", was, whole(l))
	}
	want, wanted := b.k.enter(o)
	spoilOp(o)
	return b.held(ahead, r, changes, want, wanted)
}

// merge asks ahead what would be told.
func (b *both) merge(start int, l []api.Entry) api.Reply {
	b.t.Helper()
	b.would(start, l)
	l = roomyEntries(l)
	was, ahead := whole(l), b.m.State()
	r, changes := b.m.Merge(start, l)
	if whole(l) != was {
		b.t.Fatalf("handed in was\n%s, and is\n%s", was, whole(l))
	}
	want, wanted := b.k.merge(start, l)
	spoilEntries(l)
	return b.held(ahead, r, changes, want, wanted)
}

// would asks Would and Acked, and tells what they tell.
func (b *both) would(start int, l []api.Entry) (api.Code, int) {
	b.t.Helper()
	l = roomyEntries(l)
	was := whole(l)
	code, n := b.m.Would(start, l), b.m.Acked(l)
	if whole(l) != was {
		b.t.Fatalf("handed in was\n%s, and is\n%s", was, whole(l))
	}
	if want, wanted := b.k.would(start, l), b.k.acked(l); code != want || n != wanted {
		b.t.Fatalf("%d, and %d names, not %d and %d, of %d and\n%s", code, n, want, wanted, start, toldEntries(l))
	}
	spoilEntries(l)
	b.check()
	return code, n
}

// drained asks the model for all that a later call could tell: the watchers' changes, the next numbers and names, and whether there is room.
func (b *both) drained() {
	b.t.Helper()
	for _, number := range b.m.Watchers() {
		for range 3 {
			b.do(poll(number, 40))
		}
	}
	for range 2 {
		b.do(watch("last"))
		b.enter(op(put("last", "x")))
	}
	b.merge(len(b.k.done), []api.Entry{entry(200, 4294967296, op(put("last", "y")))})
	for _, number := range b.m.Watchers() {
		b.do(poll(number, 40))
	}
}

// Operations and entries

func put(key, value string) api.Step {
	return api.Step{Kind: api.Put, Key: key, Value: value}
}

func del(key string) api.Step { return api.Step{Kind: api.Delete, Key: key} }

func add(key string, n int64) api.Step {
	return api.Step{Kind: api.Add, Key: key, N: n}
}

func cas(key, old, value string) api.Step {
	return api.Step{Kind: api.Cas, Key: key, Old: old, Value: value}
}

func has(key string) api.Guard   { return api.Guard{Kind: api.Has, Key: key} }
func lacks(key string) api.Guard { return api.Guard{Kind: api.Lacks, Key: key} }
func equals(key, value string) api.Guard {
	return api.Guard{Kind: api.Equals, Key: key, Value: value}
}

func op(steps ...api.Step) api.Op { return api.Op{Steps: steps} }

// when is the operation, with guards.
func when(o api.Op, guards ...api.Guard) api.Op {
	o.Guards = guards
	return o
}

func entry(origin, seq int, o api.Op) api.Entry {
	return api.Entry{Id: api.Id{Origin: origin, Seq: seq}, Op: o}
}

// Calls

func read(key string) ask   { return ask{call: api.Call{Kind: api.Read, Text: key}} }
func watch(text string) ask { return ask{call: api.Call{Kind: api.Watch, Text: text}} }
func unwatch(number int) ask {
	return ask{call: api.Call{Kind: api.Unwatch, N: number}}
}
func resync(number int) ask {
	return ask{call: api.Call{Kind: api.Resync, N: number}}
}
func poll(number, most int) ask {
	return ask{call: api.Call{Kind: api.Poll, N: number, Start: most}}
}

var (
	snapshot = ask{call: api.Call{Kind: api.Snapshot}}
	collect  = ask{call: api.Call{Kind: api.Collect}}
)

// mutate is the call of an operation's bytes, whether it may be or not.
func mutate(o api.Op) ask {
	return ask{call: api.Call{Kind: api.Mutate, Text: string(bytesOf(nil, o))}, readable: mayBe(o), op: o}
}

func rebase(start int, l []api.Entry) ask {
	text := binary.AppendUvarint(nil, uint64(len(l)))
	for _, e := range l {
		text = binary.AppendUvarint(text, uint64(e.Id.Origin))
		text = binary.AppendUvarint(text, uint64(e.Id.Seq))
		text = bytesOf(text, e.Op)
	}
	return ask{call: api.Call{Kind: api.Rebase, Start: start, Text: string(text)}, readable: mayBeBatch(l), l: l}
}

// asked is a call of any text, of which the layers below tell what it says.
func asked(c api.Call) ask {
	if c.Kind == api.Mutate {
		o, err := opcode.Parse(c.Text)
		return ask{call: c, readable: err == nil, op: o}
	}
	l, err := batch.Parse(c.Text)
	return ask{call: c, readable: err == nil, l: l}
}

func bytesOf(text []byte, o api.Op) []byte {
	texted := func(s string) { text = append(binary.AppendUvarint(text, uint64(len(s))), s...) }
	text = binary.AppendUvarint(text, uint64(len(o.Guards)))
	for _, g := range o.Guards {
		text = binary.AppendUvarint(text, uint64(g.Kind))
		texted(g.Key)
		if guardHas[g.Kind].value {
			texted(g.Value)
		}
	}
	text = binary.AppendUvarint(text, uint64(len(o.Steps)))
	for _, s := range o.Steps {
		text = binary.AppendUvarint(text, uint64(s.Kind))
		texted(s.Key)
		if stepHas[s.Kind].old {
			texted(s.Old)
		}
		if stepHas[s.Kind].value {
			texted(s.Value)
		}
		if stepHas[s.Kind].n {
			text = binary.AppendVarint(text, s.N)
		}
	}
	return text
}
