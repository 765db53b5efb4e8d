package table

import (
	"errors"
	"iter"
	"maps"
	"math"
	"math/rand"
	"reflect"
	"slices"
	"strings"
	"testing"
	"unsafe"

	"philtre/api"
)

// oddKeys rise: the empty one, beginnings of others, bytes of 0 and of 255, and bytes that are no text in UTF-8.
var oddKeys = []string{
	"", "\x00", "\x00\x00", "\x00\x00\x01", "\x00\xff", "\x01", " ", "-", "0", "00", "10", "9", "A", "B", "a", "a\x00", "a\x00\x00", "a\x01", "a ", "aA", "aa", "aaa", "ab", "a\xff", "b", "key", "key0", "keys", "z",
	"\x7f", "\x80", "\xa4", "\xbf\xbf", "\xc3", "\xc3\xa4", "\xc3\xa4a", "\xc3\xff", "\xe2\x82\xac", "\xed\xa0\x80", "\uffff", "\U0001f600", "\xfe", "\xff", "\xff\x00", "\xff\xfe", "\xff\xff", "\xff\xff\xff",
}

// oddPlaces are no places of any map here.
func oddPlaces(length int) []int {
	return []int{-1, -2, -length - 1, math.MinInt, math.MinInt + 1, math.MinInt32, length, length + 1, 2*length + 1, math.MaxInt32 + length, math.MaxInt - 1, math.MaxInt}
}

// pair is a key and its value, as they are told.
type pair[V any] struct {
	key string
	v   V
}

// told are the first pairs of what is gone over, at most so many, and how often it went on when it had been left.
func told[V any](all iter.Seq2[string, V], most int) (pairs []pair[V], behind int) {
	left := false
	all(func(key string, v V) bool {
		if left {
			behind++
			return false
		}
		pairs = append(pairs, pair[V]{key, v})
		left = len(pairs) >= most
		return !left
	})
	return pairs, behind
}

// reckonFrom are the pairs of a map of Go's whose keys are not ahead of key.
func reckonFrom[V any](want map[string]V, key string) []pair[V] {
	var pairs []pair[V]
	for _, k := range slices.Sorted(maps.Keys(want)) {
		if k >= key {
			pairs = append(pairs, pair[V]{k, want[k]})
		}
	}
	return pairs
}

func checkFrom[V any](t *testing.T, m *Table[V], want map[string]V, key string) {
	t.Helper()
	all := m.From(key)
	if all == nil {
		t.Fatalf("from %q: nil", key)
	}
	pairs, _ := told(all, math.MaxInt)
	if wanted := reckonFrom(want, key); !reflect.DeepEqual(pairs, wanted) {
		t.Fatalf("from %q: %v, not %v", key, pairs, wanted)
	}
}

// check asks a map for all that it can tell.
func check[V any](t *testing.T, m *Table[V], want map[string]V) {
	t.Helper()
	if n := m.Len(); n != len(want) {
		t.Fatalf("%d keys, not %d", n, len(want))
	}
	for i, wanted := range slices.Sorted(maps.Keys(want)) {
		if key, is := m.Key(i); !is || key != wanted {
			t.Fatalf("key %d: %q, %v, not %q", i, key, is, wanted)
		}
		if v, has := m.Get(wanted); !has || !reflect.DeepEqual(v, want[wanted]) {
			t.Fatalf("of %q: %v, %v, not %v", wanted, v, has, want[wanted])
		}
	}
	for _, i := range oddPlaces(len(want)) {
		if key, is := m.Key(i); is || key != "" {
			t.Fatalf("key %d of %d: %q, %v", i, len(want), key, is)
		}
	}
	var zero V
	for _, key := range append(slices.Clone(oddKeys), "lacks", "a\x00\xff", "k", "kez", "\xff\xff\xff\xff") {
		if _, is := want[key]; is {
			continue
		}
		if v, has := m.Get(key); has || !reflect.DeepEqual(v, zero) {
			t.Fatalf("of %q, which has none: %v, %v", key, v, has)
		}
	}
	checkFrom(t, m, want, "")
}

// put makes a map of keys, each with how many were put ahead of it.
func put(keys ...string) (*Table[int], map[string]int) {
	m, want := New[int](), map[string]int{}
	for i, key := range keys {
		m.Put(key, i)
		want[key] = i
	}
	return m, want
}

// P6.1

func TestNew(t *testing.T) {
	if New[int]() == nil || New[string]() == nil {
		t.Fatal("nil")
	}
	check(t, New[int](), map[string]int{})
	check(t, New[string](), map[string]string{})
	check(t, New[api.Op](), map[string]api.Op{})
	one, other := New[int](), New[int]()
	one.Put("a", 1)
	check(t, other, map[string]int{})
	check(t, New[int](), map[string]int{})
}

func TestOneKey(t *testing.T) {
	for _, key := range oddKeys {
		m := New[int]()
		if m.Delete(key) {
			t.Fatalf("%q had none", key)
		}
		m.Put(key, 7)
		check(t, m, map[string]int{key: 7})
		m.Put(key, -8)
		check(t, m, map[string]int{key: -8})
		m.Put(key, 0)
		check(t, m, map[string]int{key: 0})
		if !m.Delete(key) {
			t.Fatalf("%q had one", key)
		}
		check(t, m, map[string]int{})
		if m.Delete(key) {
			t.Fatalf("%q was deleted", key)
		}
		m.Put(key, 9)
		check(t, m, map[string]int{key: 9})
	}
}

// Keys rise byte by byte, however they came.
func TestKeysRise(t *testing.T) {
	r := rand.New(rand.NewSource(61))
	for round := range 60 {
		keys := slices.Clone(oddKeys)
		switch round {
		case 0:
		case 1:
			slices.Reverse(keys)
		default:
			r.Shuffle(len(keys), func(i, j int) { keys[i], keys[j] = keys[j], keys[i] })
		}
		m, want := put(keys...)
		for i, wanted := range oddKeys {
			if key, is := m.Key(i); !is || key != wanted {
				t.Fatalf("key %d: %q, %v, not %q", i, key, is, wanted)
			}
		}
		check(t, m, want)
	}
}

func TestPutAgain(t *testing.T) {
	for _, again := range oddKeys {
		for _, v := range []int{-1, 0, 1, 1000, math.MinInt, math.MaxInt} {
			m, want := put(oddKeys...)
			m.Put(again, v)
			want[again] = v
			check(t, m, want)
		}
	}
	m := New[string]()
	m.Put("a", "one")
	m.Put("a", "")
	check(t, m, map[string]string{"a": ""})
}

// What is deleted stands ahead of all others, behind them, or between two.
func TestDelete(t *testing.T) {
	for n := 1; n <= 12; n++ {
		for from := range n {
			m, want := put(oddKeys[:n]...)
			key := oddKeys[from]
			delete(want, key)
			if !m.Delete(key) {
				t.Fatalf("%q had one", key)
			}
			check(t, m, want)
			if m.Delete(key) {
				t.Fatalf("%q was deleted", key)
			}
			check(t, m, want)
			m.Put(key, 99)
			want[key] = 99
			check(t, m, want)
		}
	}
}

func TestDeleteOfNone(t *testing.T) {
	m, want := put("b", "d", "dd", "f")
	for _, key := range []string{"", "a", "b\x00", "c", "d\x00", "ddd", "e", "f\x00", "g", "\xff", "B", "lacks"} {
		if m.Delete(key) {
			t.Errorf("%q had none", key)
		}
		check(t, m, want)
	}
}

func TestDeleteAll(t *testing.T) {
	r := rand.New(rand.NewSource(62))
	for round := range 40 {
		m, want := put(oddKeys...)
		keys := slices.Clone(oddKeys)
		switch round {
		case 0:
		case 1:
			slices.Reverse(keys)
		default:
			r.Shuffle(len(keys), func(i, j int) { keys[i], keys[j] = keys[j], keys[i] })
		}
		for _, key := range keys {
			if !m.Delete(key) {
				t.Fatalf("%q had one", key)
			}
			delete(want, key)
			check(t, m, want)
		}
		m.Put("again", 5)
		check(t, m, map[string]int{"again": 5})
	}
}

func TestKey(t *testing.T) {
	m, _ := put("b", "a", "")
	for i, wanted := range map[int]string{0: "", 1: "a", 2: "b"} {
		if key, is := m.Key(i); !is || key != wanted {
			t.Errorf("key %d: %q, %v", i, key, is)
		}
	}
	for _, i := range []int{3, 4, -1, -3, math.MinInt, math.MaxInt} {
		if key, is := m.Key(i); is || key != "" {
			t.Errorf("key %d: %q, %v", i, key, is)
		}
	}
}

func TestNil(t *testing.T) {
	var m *Table[int]
	m.Put("a", 1)
	m.Put("", 1)
	if m != nil || m.Len() != 0 || m.Copy() != nil || m.Delete("a") || m.Delete("") {
		t.Error("a nil map has keys")
	}
	check(t, m, map[string]int{})
	for _, key := range oddKeys {
		checkFrom(t, m, map[string]int{}, key)
	}
	var s *Table[string]
	s.Put("a", "b")
	if v, has := s.Get("a"); has || v != "" || s.Copy() != nil {
		t.Errorf("%q, %v", v, has)
	}
	check(t, s, map[string]string{})
	check(t, s.Copy(), map[string]string{})
}

// Each call may be the first one of a map that New did not make.
func TestPlain(t *testing.T) {
	check(t, &Table[int]{}, map[string]int{})
	check(t, new(Table[api.Pair]), map[string]api.Pair{})
	for _, key := range oddKeys {
		checkFrom(t, &Table[int]{}, map[string]int{}, key)
		var deleted, got, used Table[int]
		if deleted.Delete(key) {
			t.Errorf("%q had none", key)
		}
		if v, has := got.Get(key); has || v != 0 {
			t.Errorf("of %q: %d, %v", key, v, has)
		}
		used.Put(key, 3)
		check(t, &used, map[string]int{key: 3})
		check(t, used.Copy(), map[string]int{key: 3})
		if !used.Delete(key) || used.Delete(key) {
			t.Errorf("%q had one", key)
		}
		check(t, &used, map[string]int{})
	}
	copied := new(Table[int]).Copy()
	if copied == nil {
		t.Fatal("nil")
	}
	check(t, copied, map[string]int{})
	copied.Put("a", 1)
	check(t, copied, map[string]int{"a": 1})
}

// One of both changes, or both do, each for itself: ahead, between and behind, put, put again and deleted.
func TestCopy(t *testing.T) {
	type change func(m *Table[int], want map[string]int)
	changes := []change{func(*Table[int], map[string]int) {}}
	for _, key := range []string{"", "a", "b", "c", "d", "e", "f", "g", "\xff"} {
		changes = append(changes, func(m *Table[int], want map[string]int) {
			m.Put(key, 100)
			want[key] = 100
		}, func(m *Table[int], want map[string]int) {
			m.Delete(key)
			delete(want, key)
		})
	}
	for n := range 5 {
		for _, ofMap := range changes {
			for _, ofCopy := range changes {
				m, want := put([]string{"b", "d", "f", "e"}[:n]...)
				c, wantOfCopy := m.Copy(), maps.Clone(want)
				if c == nil || c == m {
					t.Fatal("no other map")
				}
				check(t, c, wantOfCopy)
				ofMap(m, want)
				check(t, c, wantOfCopy)
				ofCopy(c, wantOfCopy)
				check(t, m, want)
				check(t, c, wantOfCopy)
			}
		}
	}
}

// A map that has spare room behind its pairs does not share it with its copies, nor these with one another.
func TestCopyHasNoRoomInCommon(t *testing.T) {
	for n := range 40 {
		m, want := put(oddKeys[:n]...)
		m.Put("\xff\xff\xff\xff", 1)
		m.Delete("\xff\xff\xff\xff")
		all := []*Table[int]{m, m.Copy(), m.Copy(), m.Copy().Copy()}
		wants := []map[string]int{want, maps.Clone(want), maps.Clone(want), maps.Clone(want)}
		for i, c := range all {
			for _, key := range []string{"\xff\xff\xff\xff" + string(rune('a'+i)), "\xff\xff\xff\xffz"} {
				c.Put(key, i)
				wants[i][key] = i
			}
		}
		for i, c := range all {
			check(t, c, wants[i])
		}
		for i, c := range all {
			key, _ := c.Key(i % c.Len())
			c.Delete(key)
			delete(wants[i], key)
		}
		for i, c := range all {
			check(t, c, wants[i])
		}
	}
}

func TestCopyOfNoneLeft(t *testing.T) {
	m, _ := put("a", "b", "c")
	for _, key := range []string{"a", "b", "c"} {
		m.Delete(key)
	}
	c := m.Copy()
	check(t, c, map[string]int{})
	c.Put("x", 1)
	m.Put("y", 2)
	check(t, c, map[string]int{"x": 1})
	check(t, m, map[string]int{"y": 2})
}

// What was handed out before hangs on nothing that comes later.
func TestHandedOut(t *testing.T) {
	m, _ := put("a", "b", "c", "d")
	key, _ := m.Key(1)
	v, _ := m.Get("b")
	pairs, _ := told(m.From(""), 4)
	for _, k := range []string{"", "a", "b", "c", "d", "e"} {
		m.Put(k, 50)
		m.Delete(k)
	}
	m.Put("z", 51)
	if want := []pair[int]{{"a", 0}, {"b", 1}, {"c", 2}, {"d", 3}}; key != "b" || v != 1 || !slices.Equal(pairs, want) {
		t.Error(key, v, pairs)
	}
}

// A key's bytes are the map's own: who handed it in may have cut it out of a text, or of bytes that change.
func TestKeyIsNotKept(t *testing.T) {
	b := []byte("a key of somebody else's")
	m := New[int]()
	m.Put(unsafe.String(&b[2], 3), 1)
	copy(b, "zzzzzzzzzz")
	check(t, m, map[string]int{"key": 1})
}

func TestMany(t *testing.T) {
	const many = 3000
	r := rand.New(rand.NewSource(63))
	m, want := New[int](), map[string]int{}
	for _, i := range r.Perm(many) {
		key := strings.Repeat(string([]byte{byte(i), byte(i >> 8)}), 1+i%5)
		m.Put(key, i)
		want[key] = i
	}
	if len(want) != many {
		t.Fatal(len(want), "keys")
	}
	check(t, m, want)
	c, wantOfCopy := m.Copy(), maps.Clone(want)
	for _, key := range slices.Sorted(maps.Keys(want)) {
		if r.Intn(3) == 0 {
			continue
		}
		if !m.Delete(key) || m.Delete(key) {
			t.Fatalf("%q had one", key)
		}
		delete(want, key)
	}
	check(t, m, want)
	check(t, c, wantOfCopy)
}

// randomKey is one of few, so that many come again.
func randomKey(r *rand.Rand) string {
	b := make([]byte, r.Intn(4))
	for i := range b {
		b[i] = []byte{0, 'a', 'b', 255}[r.Intn(4)]
	}
	return string(b)
}

// Whatever comes of puts, deletes and copies is what Go's own maps make of them.
func TestAgainstMaps(t *testing.T) {
	for seed := range int64(40) {
		r := rand.New(rand.NewSource(640 + seed))
		all, wants := []*Table[int]{New[int]()}, []map[string]int{{}}
		for range 300 {
			i, key := r.Intn(len(all)), randomKey(r)
			_, had := wants[i][key]
			switch n := r.Intn(10); {
			case n < 5:
				v := r.Intn(3)
				all[i].Put(key, v)
				wants[i][key] = v
			case n < 8:
				if all[i].Delete(key) != had {
					t.Fatalf("%q: %v", key, !had)
				}
				delete(wants[i], key)
			case n < 9 && len(all) < 4:
				all = append(all, all[i].Copy())
				wants = append(wants, maps.Clone(wants[i]))
			default:
				checkFrom(t, all[i], wants[i], key)
			}
			v, has := all[i].Get(key)
			if wanted, is := wants[i][key]; v != wanted || has != is {
				t.Fatalf("of %q: %d, %v", key, v, has)
			}
		}
		for i := range all {
			check(t, all[i], wants[i])
		}
	}
}

// P6.2

func TestFrom(t *testing.T) {
	m := New[string]()
	for _, key := range []string{"d", "b", "dd", "f"} {
		m.Put(key, "of "+key)
	}
	for from, want := range map[string]string{
		"": "b d dd f", "a": "b d dd f", "\x00": "b d dd f", "b": "b d dd f", "b\x00": "d dd f", "c": "d dd f", "cc": "d dd f", "d": "d dd f", "d\x00": "dd f", "dc\xff": "dd f", "dd": "dd f", "dd\x00": "f", "e": "f", "f": "f", "f\x00": "", "g": "", "\xff": "", "B": "b d dd f",
	} {
		var keys []string
		for key, v := range m.From(from) {
			if v != "of "+key {
				t.Errorf("from %q: %q has %q", from, key, v)
			}
			keys = append(keys, key)
		}
		if got := strings.Join(keys, " "); got != want {
			t.Errorf("from %q: %q, not %q", from, got, want)
		}
	}
}

// The chapter's own example.
func TestExample(t *testing.T) {
	m := New[int]()
	m.Put("b", 2)
	m.Put("a", 1)
	if key, is := m.Key(0); !is || key != "a" {
		t.Error(key, is)
	}
	if pairs, _ := told(m.From("b"), 9); !slices.Equal(pairs, []pair[int]{{"b", 2}}) {
		t.Error(pairs)
	}
}

// Of keys that are there, and of those that are not, ahead of all, behind all and between.
func TestFromEach(t *testing.T) {
	for n := range len(oddKeys) + 1 {
		m, want := put(oddKeys[:n]...)
		for _, key := range oddKeys {
			checkFrom(t, m, want, key)
			checkFrom(t, m, want, key+"\x00")
			checkFrom(t, m, want, key+"m")
		}
	}
	m, want := New[int](), map[string]int{}
	for i := 1; i < len(oddKeys); i += 2 {
		m.Put(oddKeys[i], i)
		want[oddKeys[i]] = i
	}
	for _, key := range oddKeys {
		checkFrom(t, m, want, key)
	}
}

// It may be left at each of its pairs, at the first and at the last one too.
func TestFromIsLeft(t *testing.T) {
	for n := 1; n <= 9; n++ {
		m, _ := put(oddKeys[:n]...)
		for from := range n {
			whole, _ := told(m.From(oddKeys[from]), math.MaxInt)
			for most := 1; most <= n-from; most++ {
				pairs, behind := told(m.From(oddKeys[from]), most)
				if !slices.Equal(pairs, whole[:most]) || behind != 0 {
					t.Fatalf("from %q: %v of %v, and %d behind", oddKeys[from], pairs, whole, behind)
				}
			}
		}
		for range m.From("") {
			break
		}
	}
}

func TestFromTwice(t *testing.T) {
	for n := range 6 {
		m, want := put(oddKeys[:n]...)
		all := m.From("\x00")
		for range all {
			break
		}
		one, _ := told(all, math.MaxInt)
		other, _ := told(all, math.MaxInt)
		if wanted := reckonFrom(want, "\x00"); !slices.Equal(one, wanted) || !slices.Equal(other, wanted) {
			t.Errorf("%v, and then %v, not %v", one, other, wanted)
		}
	}
}

// Whoever goes over a map while somebody else does comes by all of it.
func TestFromWithinItself(t *testing.T) {
	m, want := put("c", "a", "d", "b")
	all, wanted := m.From("b"), reckonFrom(want, "b")
	i := 0
	for key, v := range all {
		if wanted[i] != (pair[int]{key, v}) {
			t.Errorf("%d: %q, %d", i, key, v)
		}
		if inner, _ := told(all, math.MaxInt); !slices.Equal(inner, wanted) {
			t.Errorf("within %q: %v", key, inner)
		}
		if inner, _ := told(m.From(key), math.MaxInt); !slices.Equal(inner, wanted[i:]) {
			t.Errorf("from %q: %v", key, inner)
		}
		i++
	}
	if i != len(wanted) {
		t.Error(i, "pairs")
	}
	next, stop := iter.Pull2(all)
	defer stop()
	for _, w := range wanted {
		one, v, is := next()
		if inner, _ := told(all, 1); !is || w != (pair[int]{one, v}) || inner[0] != wanted[0] {
			t.Error(one, v, is, inner)
		}
	}
}

// Asked for ahead of a change and gone over behind it, it tells the pairs as they are then.
func TestFromAheadOfChange(t *testing.T) {
	var plain Table[int]
	m, want := &plain, map[string]int{}
	whole, part := m.From(""), m.From("b\xff")
	for i, key := range []string{"c", "a", "b", "b\xff", "", "d", "c", "b\xff\x00", "a", "bb"} {
		m.Put(key, i)
		want[key] = i
		if pairs, _ := told(whole, math.MaxInt); !slices.Equal(pairs, reckonFrom(want, "")) {
			t.Fatalf("%q put: %v", key, pairs)
		}
		if pairs, _ := told(part, math.MaxInt); !slices.Equal(pairs, reckonFrom(want, "b\xff")) {
			t.Fatalf("%q put: %v", key, pairs)
		}
	}
	for _, key := range []string{"b\xff", "", "d", "lacks", "a", "c", "bb", "b\xff\x00", "b", "b"} {
		m.Delete(key)
		delete(want, key)
		if pairs, _ := told(whole, math.MaxInt); !slices.Equal(pairs, reckonFrom(want, "")) {
			t.Fatalf("%q deleted: %v", key, pairs)
		}
		if pairs, _ := told(part, math.MaxInt); !slices.Equal(pairs, reckonFrom(want, "b\xff")) {
			t.Fatalf("%q deleted: %v", key, pairs)
		}
	}
}

// What is asked of a map is told of that one, and not of its copy.
func TestFromOfCopy(t *testing.T) {
	m, want := put("a", "b", "c")
	c, wantOfCopy := m.Copy(), maps.Clone(want)
	ofMap, ofCopy := m.From("b"), c.From("b")
	m.Put("bb", 7)
	m.Delete("c")
	want["bb"] = 7
	delete(want, "c")
	c.Put("b", 8)
	c.Put("z", 9)
	wantOfCopy["b"], wantOfCopy["z"] = 8, 9
	if pairs, _ := told(ofMap, math.MaxInt); !slices.Equal(pairs, reckonFrom(want, "b")) {
		t.Error(pairs)
	}
	if pairs, _ := told(ofCopy, math.MaxInt); !slices.Equal(pairs, reckonFrom(wantOfCopy, "b")) {
		t.Error(pairs)
	}
}

// Going over a map changes nothing of it.
func TestFromChangesNothing(t *testing.T) {
	m, want := put(oddKeys...)
	for _, key := range oddKeys {
		told(m.From(key), 3)
		check(t, m, want)
	}
}

// A map is not to be changed while it is gone through; where it is, that ends none the less, and does not panic.
func TestFromWhileChanged(t *testing.T) {
	for name, change := range map[string]func(m *Table[int], key string){
		"put behind":   func(m *Table[int], key string) { m.Put(key+"\xff", 1) },
		"put ahead":    func(m *Table[int], key string) { m.Put(strings.Repeat("\x00", m.Len()), 1) },
		"put again":    func(m *Table[int], key string) { m.Put(key, 1) },
		"delete it":    func(m *Table[int], key string) { m.Delete(key) },
		"delete first": func(m *Table[int], key string) { first, _ := m.Key(0); m.Delete(first) },
		"delete last":  func(m *Table[int], key string) { last, _ := m.Key(m.Len() - 1); m.Delete(last) },
	} {
		m, _ := put("a", "b", "c", "d", "e", "f", "g", "h")
		most := 1000
		for key := range m.From("b") {
			if _, has := m.Get(key); !has {
				t.Errorf("%s: %q has none", name, key)
			}
			change(m, key)
			if most--; most == 0 {
				t.Fatal(name, "goes on and on")
			}
		}
	}
}

// Values of more than one type

// checkValues puts values, puts them again the other way round, copies and deletes.
func checkValues[V any](t *testing.T, values ...V) {
	t.Helper()
	m, want := New[V](), map[string]V{}
	for i, v := range values {
		m.Put(oddKeys[i], v)
		want[oddKeys[i]] = v
	}
	check(t, m, want)
	c, wantOfCopy := m.Copy(), maps.Clone(want)
	slices.Reverse(values)
	for i, v := range values {
		m.Put(oddKeys[i], v)
		want[oddKeys[i]] = v
	}
	check(t, m, want)
	check(t, c, wantOfCopy)
	for i := range values {
		if !m.Delete(oddKeys[i]) {
			t.Errorf("%q had one", oddKeys[i])
		}
		delete(want, oddKeys[i])
		check(t, m, want)
	}
	check(t, c, wantOfCopy)
}

func TestValues(t *testing.T) {
	type mixed struct {
		n      int
		name   string
		l      []string
		within struct{ f float64 }
	}
	n := 5
	checkValues(t, 1, 0, -1, math.MaxInt, math.MinInt)
	checkValues(t, uint64(0), math.MaxUint64, 1<<63)
	checkValues(t, "a", "", "\x00\xff", "a")
	checkValues(t, true, false, true)
	checkValues(t, 0.5, 0, -1)
	checkValues(t, struct{}{}, struct{}{}, struct{}{})
	checkValues(t, [3]byte{1, 2, 3}, [3]byte{}, [3]byte{255})
	checkValues(t, []byte("abc"), nil, []byte{}, []byte{0})
	checkValues(t, map[string]int{"a": 1}, nil, map[string]int{})
	checkValues(t, &n, nil, new(int))
	checkValues[any](t, 1, nil, "a", 2.5, []int{1})
	checkValues[error](t, errors.New("one"), nil, api.ErrForm)
	checkValues(t, api.Pair{Key: "k", Value: "v"}, api.Pair{}, api.Pair{Key: "k"})
	checkValues(t, api.Change{Key: "k", Has: true}, api.Change{}, api.Change{Value: "v"})
	checkValues(t, api.Op{Steps: []api.Step{{Kind: api.Put, Key: "k"}}}, api.Op{}, api.Op{Guards: []api.Guard{{Kind: api.Has}}})
	checkValues(t, mixed{1, "a", []string{"b"}, struct{ f float64 }{2}}, mixed{}, mixed{name: "c"})
	checkValues(t, New[int](), nil, &Table[int]{})
}

// Of a key that has none, and of a nil map, the value is the type's zero.
func TestZeroValues(t *testing.T) {
	var none *Table[api.Op]
	some := New[api.Op]()
	some.Put("a", api.Op{Steps: []api.Step{{Kind: api.Delete, Key: "k"}}})
	for _, m := range []*Table[api.Op]{none, some, {}} {
		if v, has := m.Get("b"); has || !reflect.DeepEqual(v, api.Op{}) {
			t.Error(v, has)
		}
	}
	for _, m := range []*Table[*int]{nil, New[*int](), {}} {
		if v, has := m.Get("b"); has || v != nil {
			t.Error(v, has)
		}
	}
}

// A value that was put is there, even if it is the type's zero.
func TestZeroIsAValue(t *testing.T) {
	m := New[*int]()
	m.Put("a", nil)
	if v, has := m.Get("a"); !has || v != nil || m.Len() != 1 {
		t.Error(v, has)
	}
	if !m.Delete("a") || m.Delete("a") {
		t.Error("a had one")
	}
}
