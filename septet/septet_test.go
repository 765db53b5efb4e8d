package septet

import (
	"encoding/binary"
	"errors"
	"math"
	"math/big"
	"math/rand"
	"slices"
	"strings"
	"testing"

	"philtre/api"
	"philtre/fail"
)

const greatest = math.MaxUint64

// more is so many bytes that each ask for another one behind it.
func more(count int) string { return strings.Repeat("\x80", count) }

type row struct {
	n uint64
	s string
}

// rows are the least and the greatest number of each length, and some between.
func rows() []row {
	return []row{
		{0, "\x00"}, {1, "\x01"}, {5, "\x05"}, {64, "\x40"}, {127, "\x7f"},
		{128, "\x80\x01"}, {129, "\x81\x01"}, {255, "\xff\x01"}, {256, "\x80\x02"}, {300, "\xac\x02"}, {16383, "\xff\x7f"},
		{16384, "\x80\x80\x01"}, {65536, "\x80\x80\x04"}, {1<<21 - 1, "\xff\xff\x7f"},
		{1 << 21, "\x80\x80\x80\x01"}, {1<<28 - 1, "\xff\xff\xff\x7f"},
		{1 << 28, more(4) + "\x01"}, {1 << 32, more(4) + "\x10"}, {math.MaxUint32, "\xff\xff\xff\xff\x0f"}, {1<<35 - 1, "\xff\xff\xff\xff\x7f"},
		{1 << 35, more(5) + "\x01"}, {1<<42 - 1, strings.Repeat("\xff", 5) + "\x7f"},
		{1 << 42, more(6) + "\x01"}, {1<<49 - 1, strings.Repeat("\xff", 6) + "\x7f"},
		{1 << 49, more(7) + "\x01"}, {1<<56 - 1, strings.Repeat("\xff", 7) + "\x7f"},
		{1 << 56, more(8) + "\x01"}, {math.MaxInt64, strings.Repeat("\xff", 8) + "\x7f"},
		{1 << 63, more(9) + "\x01"}, {1<<63 + 1, "\x81" + more(8) + "\x01"}, {greatest, strings.Repeat("\xff", 9) + "\x01"},
	}
}

// numbers are those at and beside each power of two, and some others.
func numbers() []uint64 {
	l := []uint64{0, 300, 0x0123456789abcdef, greatest}
	for i := range 64 {
		l = append(l, 1<<i-1, 1<<i, 1<<i+1)
	}
	r := rand.New(rand.NewSource(2))
	for range 2000 {
		l = append(l, r.Uint64()>>r.Intn(64))
	}
	return l
}

// signed are the numbers at and beside each power of two, on both sides of 0.
func signed() []int64 {
	l := []int64{math.MinInt64, math.MinInt64 + 1, math.MaxInt64 - 1, math.MaxInt64}
	for i := range 63 {
		for _, n := range []int64{1<<i - 1, 1 << i, 1<<i + 1} {
			l = append(l, n, -n, -n-1)
		}
	}
	r := rand.New(rand.NewSource(3))
	for range 2000 {
		l = append(l, int64(r.Uint64())>>r.Intn(64))
	}
	return l
}

func texts() []string {
	every := make([]byte, 256)
	for i := range every {
		every[i] = byte(i)
	}
	l := []string{"", "a", "\x00", "\x80", "\xff\xff", "two words", "ä\n", string(every)}
	for _, n := range []int{126, 127, 128, 129, 16383, 16384, 70000} {
		l = append(l, strings.Repeat("x", n))
	}
	return l
}

// around are what may stand ahead of what is read, and behind it.
func around() []string {
	return []string{"", "\x00", "\x01", "\x7f", "\x80", "\xff", more(9), more(12), "ahead"}
}

// wrong says what is amiss with a number's bytes at the place at, as the chapter names it; OK, where nothing is.
func wrong(s string, at int) api.Code {
	if at < 0 || at > len(s) {
		return api.Range
	}
	next := s[at:min(len(s), at+10)]
	last := strings.IndexByte(ends(next), 'l')
	switch {
	case last < 0 && len(next) < 10:
		return api.Short
	case last < 0 || last == 9 && next[9] > 1:
		return api.Long
	case last > 0 && next[last] == 0:
		return api.Form
	}
	return api.OK
}

// ends has an l for each byte that may be a number's last one, and an m for each that asks for more.
func ends(s string) string {
	var b strings.Builder
	for i := range len(s) {
		if s[i] < 128 {
			b.WriteByte('l')
		} else {
			b.WriteByte('m')
		}
	}
	return b.String()
}

// value adds up a number's bytes without a bound.
func value(s string) *big.Int {
	sum := new(big.Int)
	for i := len(s) - 1; i >= 0; i-- {
		sum.Mul(sum, big.NewInt(128))
		sum.Add(sum, big.NewInt(int64(s[i]%128)))
	}
	return sum
}

// upTo are all texts of at most so many of some bytes.
func upTo(most int, some string) []string {
	l := []string{""}
	from := 0
	for range most {
		to := len(l)
		for _, ahead := range l[from:to] {
			for i := range len(some) {
				l = append(l, ahead+some[i:i+1])
			}
		}
		from = to
	}
	return l
}

func checkError(t *testing.T, what, s string, err error, at int, code api.Code) {
	t.Helper()
	if fail.Code(err) != code || !errors.Is(err, fail.New(code)) || !slices.Equal(fail.Places(err), []int{at}) {
		t.Fatalf("%s of %q at %d: %q, not code %d there", what, s, at, fail.Text(err), code)
	}
}

// checkTake holds Take and TakeInt at a place against what the chapter says of the bytes there.
func checkTake(t *testing.T, s string, at int) {
	t.Helper()
	n, next, err := Take(s, at)
	signed, behind, signedErr := TakeInt(s, at)
	if code := wrong(s, at); code != api.OK {
		checkError(t, "Take", s, err, at, code)
		checkError(t, "TakeInt", s, signedErr, at, code)
		if n != 0 || next != 0 || signed != 0 || behind != 0 {
			t.Fatalf("%q at %d: %d %d %d %d beside an error", s, at, n, next, signed, behind)
		}
		return
	}
	if err != nil || signedErr != nil {
		t.Fatalf("%q at %d: %v %v", s, at, err, signedErr)
	}
	if next <= at || next > len(s) || next != behind {
		t.Fatalf("%q at %d: behind it %d and %d", s, at, next, behind)
	}
	want := value(s[at:next])
	if want.Cmp(new(big.Int).SetUint64(n)) != 0 {
		t.Fatalf("%q at %d: %d, not %v", s, at, n, want)
	}
	if Put(n) != s[at:next] || PutInt(signed) != s[at:next] {
		t.Fatalf("%q at %d: taken %d and %d, whose bytes are others", s, at, n, signed)
	}
}

// P2.1

func TestPut(t *testing.T) {
	for _, r := range rows() {
		if s := Put(r.n); s != r.s {
			t.Errorf("%d: %q, not %q", r.n, s, r.s)
		}
	}
	for _, n := range numbers() {
		if s, want := Put(n), string(binary.AppendUvarint(nil, n)); s != want {
			t.Errorf("%d: %q, not %q", n, s, want)
		}
	}
}

// Each byte but the last one is 128 more, there are as few as may be, and at most ten.
func TestPutLength(t *testing.T) {
	for _, n := range numbers() {
		s := Put(n)
		if want := max(1, (new(big.Int).SetUint64(n).BitLen()+6)/7); len(s) != want {
			t.Errorf("%d: %d bytes, not %d", n, len(s), want)
		}
		if strings.Trim(ends(s[:len(s)-1]), "m") != "" || s[len(s)-1] > 127 {
			t.Errorf("%d: %q", n, s)
		}
	}
	if s := Put(greatest); len(s) != 10 {
		t.Errorf("the greatest: %q", s)
	}
}

func TestPutText(t *testing.T) {
	for _, c := range []struct{ s, want string }{
		{"", "\x00"}, {"a", "\x01a"}, {"\x00", "\x01\x00"}, {"\x80\xff", "\x02\x80\xff"}, {"two words", "\x09two words"},
		{strings.Repeat("y", 127), "\x7f" + strings.Repeat("y", 127)},
		{strings.Repeat("y", 128), "\x80\x01" + strings.Repeat("y", 128)},
		{strings.Repeat("y", 300), "\xac\x02" + strings.Repeat("y", 300)},
	} {
		if s := PutText(c.s); s != c.want {
			t.Errorf("%q: %q", c.s, s)
		}
	}
	for _, s := range texts() {
		if got, want := PutText(s), string(binary.AppendUvarint(nil, uint64(len(s))))+s; got != want {
			t.Errorf("%d bytes: %d bytes, that begin with %q", len(s), len(got), got[:min(len(got), 4)])
		}
	}
}

func TestPutInt(t *testing.T) {
	for _, c := range []struct {
		n int64
		s string
	}{
		{0, "\x00"}, {-1, "\x01"}, {1, "\x02"}, {-2, "\x03"}, {2, "\x04"}, {63, "\x7e"}, {-64, "\x7f"},
		{64, "\x80\x01"}, {-65, "\x81\x01"}, {150, "\xac\x02"}, {8191, "\xfe\x7f"}, {-8192, "\xff\x7f"}, {8192, "\x80\x80\x01"},
		{math.MaxInt32, "\xfe\xff\xff\xff\x0f"}, {math.MinInt32, "\xff\xff\xff\xff\x0f"},
		{math.MaxInt64, "\xfe" + strings.Repeat("\xff", 8) + "\x01"}, {math.MinInt64, strings.Repeat("\xff", 9) + "\x01"},
		{math.MinInt64 + 1, "\xfd" + strings.Repeat("\xff", 8) + "\x01"},
	} {
		if s := PutInt(c.n); s != c.s {
			t.Errorf("%d: %q, not %q", c.n, s, c.s)
		}
	}
	for _, n := range signed() {
		if s, want := PutInt(n), string(binary.AppendVarint(nil, n)); s != want {
			t.Errorf("%d: %q, not %q", n, s, want)
		}
	}
}

// P2.2

func TestTake(t *testing.T) {
	for _, r := range rows() {
		if n, next, err := Take(r.s, 0); n != r.n || next != len(r.s) || err != nil {
			t.Errorf("%q: %d %d %v, not %d", r.s, n, next, err, r.n)
		}
	}
	if n, next, err := Take("ab\xac\x02\x80", 2); n != 300 || next != 4 || err != nil {
		t.Error(n, next, err)
	}
}

func TestTakeWrong(t *testing.T) {
	for _, c := range []struct {
		s    string
		at   int
		code api.Code
	}{
		{"", -1, api.Range}, {"", 1, api.Range}, {"", math.MinInt, api.Range}, {"", math.MaxInt, api.Range},
		{"abc", -1, api.Range}, {"abc", 4, api.Range}, {"abc", 5, api.Range}, {"abc", math.MinInt, api.Range}, {"abc", math.MaxInt, api.Range},
		{"\x80\x80", 3, api.Range}, {more(12), -1, api.Range}, {more(12), 13, api.Range},
		{"", 0, api.Short}, {"abc", 3, api.Short}, {"\x80", 0, api.Short}, {"\xff", 0, api.Short}, {"\x80", 1, api.Short},
		{"a\x80\x80", 1, api.Short}, {more(9), 0, api.Short}, {strings.Repeat("\xff", 9), 0, api.Short}, {more(12), 3, api.Short},
		{more(10), 0, api.Long}, {more(11), 0, api.Long}, {more(12), 2, api.Long}, {more(10) + "\x01", 0, api.Long}, {more(10) + "\x00", 0, api.Long},
		{strings.Repeat("\xff", 10), 0, api.Long}, {more(9) + "\x02", 0, api.Long}, {more(9) + "\x03", 0, api.Long}, {more(9) + "\x7f", 0, api.Long},
		{"ab" + strings.Repeat("\xff", 9) + "\x02", 2, api.Long}, {more(9) + "\x81\x00", 0, api.Long},
		{"\x80\x00", 0, api.Form}, {"\xff\x00", 0, api.Form}, {"\x81\x00\x01", 0, api.Form}, {"\x80\x80\x00", 0, api.Form},
		{"\x80\x80\x00", 1, api.Form}, {more(8) + "\x00", 0, api.Form}, {more(9) + "\x00", 0, api.Form}, {strings.Repeat("\xff", 9) + "\x00", 0, api.Form},
		{"a\x85\x00", 1, api.Form},
	} {
		n, next, err := Take(c.s, c.at)
		if n != 0 || next != 0 {
			t.Errorf("%q at %d: %d %d beside an error", c.s, c.at, n, next)
		}
		checkError(t, "Take", c.s, err, c.at, c.code)
		signed, next, err := TakeInt(c.s, c.at)
		if signed != 0 || next != 0 {
			t.Errorf("%q at %d: %d %d beside an error", c.s, c.at, signed, next)
		}
		checkError(t, "TakeInt", c.s, err, c.at, c.code)
		for _, most := range []int{math.MinInt, -1, 0, 9, math.MaxInt} {
			text, next, err := TakeText(c.s, c.at, most)
			if text != "" || next != 0 {
				t.Errorf("%q at %d: %q %d beside an error", c.s, c.at, text, next)
			}
			checkError(t, "TakeText", c.s, err, c.at, c.code)
		}
	}
}

// All that two bytes may be, and all that edges of up to five may be, behind so many that ask for more.
func TestTakeAll(t *testing.T) {
	for a := range 256 {
		for b := range 256 {
			checkTake(t, string([]byte{byte(a), byte(b)}), 0)
		}
		for count := range 12 {
			checkTake(t, more(count)+string([]byte{byte(a)}), 0)
			checkTake(t, "\x01"+strings.Repeat("\xff", count)+string([]byte{byte(a), 0}), 1)
		}
	}
	for _, end := range upTo(5, "\x00\x01\x02\x7f\x80\xff") {
		checkTake(t, end, 0)
		checkTake(t, more(6)+end, 0)
		checkTake(t, more(6)+end, 1)
	}
}

func TestTakeEverywhere(t *testing.T) {
	s := "\x00\x7f\xac\x02\x80\x00" + more(9) + "\x01\x05" + more(11) + "\x03\xff"
	for at := -3; at <= len(s)+3; at++ {
		checkTake(t, s, at)
	}
}

func TestTakeText(t *testing.T) {
	long := strings.Repeat("z", 300)
	for _, c := range []struct {
		s        string
		at, most int
		text     string
		next     int
	}{
		{"\x00", 0, 0, "", 1}, {"\x00", 0, 16, "", 1}, {"\x00", 0, math.MaxInt, "", 1}, {"\x00abc", 0, 2, "", 1},
		{"\x01a", 0, 1, "a", 2}, {"\x03abc", 0, 3, "abc", 4}, {"\x03abcd", 0, 4, "abc", 4}, {"x\x03abcd", 1, 3, "abc", 5},
		{"\x02\x80\xff\x00", 0, 16, "\x80\xff", 3}, {"\x02abc", 0, math.MaxInt, "ab", 3},
		{"\xac\x02" + long, 0, 300, long, 302}, {"\xac\x02" + long + "y", 0, 301, long, 302}, {"..\xac\x02" + long, 2, math.MaxInt, long, 304},
	} {
		if text, next, err := TakeText(c.s, c.at, c.most); text != c.text || next != c.next || err != nil {
			t.Errorf("%q at %d, at most %d: %q %d %v", c.s, c.at, c.most, text, next, err)
		}
	}
}

func TestTakeTextWrong(t *testing.T) {
	for _, c := range []struct {
		s        string
		at, most int
		code     api.Code
	}{
		{"\x00", 0, -1, api.Long}, {"\x00", 0, math.MinInt, api.Long}, {"\x01a", 0, -1, api.Long}, {"x\x01a", 1, math.MinInt, api.Long},
		{"\x01a", 0, 0, api.Long}, {"\x03abc", 0, 2, api.Long}, {"\x11", 0, 16, api.Long}, {"ab\x11" + strings.Repeat("k", 20), 2, 16, api.Long},
		{"\xac\x02" + strings.Repeat("z", 300), 0, 299, api.Long}, {"\xac\x02" + strings.Repeat("z", 300), 0, 44, api.Long},
		{"\x05ab", 0, 4, api.Long}, {Put(1 << 63), 0, math.MaxInt, api.Long}, {Put(greatest), 0, math.MaxInt, api.Long}, {Put(greatest) + "ab", 0, 16, api.Long},
		{Put(1 << 32), 0, 16, api.Long}, {Put(1<<32+1) + "ab", 0, 16, api.Long}, {Put(greatest), 0, -1, api.Long},
		{"\x01", 0, 1, api.Short}, {"\x05ab", 0, 5, api.Short}, {"\x05abcd", 0, 16, api.Short}, {"x\x02a", 1, 16, api.Short}, {"abc\x02d", 3, 16, api.Short},
		{"\xac\x02" + strings.Repeat("z", 299), 0, 300, api.Short}, {Put(math.MaxInt64), 0, math.MaxInt, api.Short}, {"ab" + Put(math.MaxInt64) + "c", 2, math.MaxInt, api.Short},
		{Put(1 << 62), 0, math.MaxInt, api.Short}, {Put(1<<32+1) + "ab", 0, math.MaxInt, api.Short},
	} {
		text, next, err := TakeText(c.s, c.at, c.most)
		if text != "" || next != 0 {
			t.Errorf("%q at %d, at most %d: %q %d beside an error", c.s, c.at, c.most, text, next)
		}
		checkError(t, "TakeText", c.s, err, c.at, c.code)
	}
}

func TestTakeInt(t *testing.T) {
	for _, c := range []struct {
		s    string
		at   int
		n    int64
		next int
	}{
		{"\x00", 0, 0, 1}, {"\x01", 0, -1, 1}, {"\x02", 0, 1, 1}, {"\x03", 0, -2, 1}, {"\x7e", 0, 63, 1}, {"\x7f", 0, -64, 1},
		{"\x80\x01", 0, 64, 2}, {"\x81\x01", 0, -65, 2}, {"a\xac\x02b", 1, 150, 3},
		{"\xfe" + strings.Repeat("\xff", 8) + "\x01", 0, math.MaxInt64, 10}, {strings.Repeat("\xff", 9) + "\x01", 0, math.MinInt64, 10},
		{more(9) + "\x01", 0, 1 << 62, 10}, {"\x81" + more(8) + "\x01", 0, -1<<62 - 1, 10},
	} {
		if n, next, err := TakeInt(c.s, c.at); n != c.n || next != c.next || err != nil {
			t.Errorf("%q at %d: %d %d %v", c.s, c.at, n, next, err)
		}
	}
}

// P2.3

func TestBack(t *testing.T) {
	for _, n := range numbers() {
		for _, ahead := range around() {
			for _, behind := range around() {
				s := ahead + Put(n) + behind
				got, next, err := Take(s, len(ahead))
				if got != n || next != len(s)-len(behind) || err != nil {
					t.Fatalf("%d between %q and %q: %d %d %v", n, ahead, behind, got, next, err)
				}
			}
		}
	}
}

func TestBackInt(t *testing.T) {
	for _, n := range signed() {
		for _, ahead := range around() {
			for _, behind := range around() {
				s := ahead + PutInt(n) + behind
				got, next, err := TakeInt(s, len(ahead))
				if got != n || next != len(s)-len(behind) || err != nil {
					t.Fatalf("%d between %q and %q: %d %d %v", n, ahead, behind, got, next, err)
				}
			}
		}
	}
}

func TestBackText(t *testing.T) {
	for _, text := range texts() {
		for _, ahead := range around() {
			for _, behind := range around() {
				for _, room := range []int{0, 1, math.MaxInt - len(text)} {
					s := ahead + PutText(text) + behind
					got, next, err := TakeText(s, len(ahead), len(text)+room)
					if got != text || next != len(s)-len(behind) || err != nil {
						t.Fatalf("%d bytes between %q and %q: %d bytes, %d, %v", len(text), ahead, behind, len(got), next, err)
					}
				}
			}
		}
	}
}

// What is taken has just the bytes that were there: whatever the bytes are, and whatever is read.
func TestTakenHasItsBytes(t *testing.T) {
	r := rand.New(rand.NewSource(5))
	const some = "\x00\x01\x02\x03\x7f\x80\x81\xff"
	for range 20000 {
		b := make([]byte, r.Intn(14))
		for i := range b {
			b[i] = some[r.Intn(len(some))]
		}
		s, at := string(b), r.Intn(len(b)+3)-1
		checkTake(t, s, at)
		text, next, err := TakeText(s, at, r.Intn(6))
		if err == nil && PutText(text) != s[at:next] {
			t.Errorf("%q at %d: %q", s, at, text)
		}
	}
}

// One behind the other, each is read from where the one ahead of it ended.
func TestRow(t *testing.T) {
	var b strings.Builder
	for i, n := range numbers() {
		b.WriteString(Put(n) + PutText(strings.Repeat("t", i%140)) + PutInt(int64(n)))
	}
	s, at := b.String(), 0
	for i, n := range numbers() {
		got, next, err := Take(s, at)
		text, then, textErr := TakeText(s, next, 140)
		signed, end, signedErr := TakeInt(s, then)
		if got != n || text != strings.Repeat("t", i%140) || signed != int64(n) || err != nil || textErr != nil || signedErr != nil {
			t.Fatal(i, got, text, signed, err, textErr, signedErr)
		}
		at = end
	}
	if at != len(s) {
		t.Error(at, len(s))
	}
}
