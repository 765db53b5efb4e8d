package ident

import (
	"errors"
	"maps"
	"math"
	"math/big"
	"math/rand"
	"regexp"
	"slices"
	"strconv"
	"strings"
	"testing"

	"philtre/api"
	"philtre/fail"
)

// rightOrigins and rightSeqs rise, and may be; of 2^32 names or so, those at the ends, beside powers of two and of ten.
var (
	rightOrigins = []int{0, 1, 2, 7, 9, 10, 99, 100, 127, 128, 200, 254, 255}
	rightSeqs    = []int{1, 2, 7, 9, 10, 11, 99, 100, 127, 128, 255, 256, 65535, 65536, 1000000, 1<<31 - 1, 1 << 31, 1<<31 + 1, 4294967294, 4294967295, 4294967296}
)

// wrongOrigins and wrongSeqs may not be; some of them could, if they were cut to fewer bytes.
var (
	wrongOrigins = []int{math.MinInt, math.MinInt + 1, -1 << 32, math.MinInt32, -256, -255, -2, -1, 256, 257, 511, 65535, 65536, math.MaxInt32, 1 << 32, 1<<32 + 7, 1<<62 + 1, math.MaxInt - 1, math.MaxInt}
	wrongSeqs    = []int{math.MinInt, math.MinInt + 1, -1<<32 + 1, -1 << 32, math.MinInt32, -256, -2, -1, 0, 4294967297, 4294967298, 1 << 33, 1<<40 + 7, 1<<62 + 1, math.MaxInt - 1, math.MaxInt}
)

func allOrigins() []int { return slices.Concat(rightOrigins, wrongOrigins) }

func allSeqs() []int { return slices.Concat(rightSeqs, wrongSeqs) }

// every is a name for each Origin with each Seq.
func every(origins, seqs []int) []api.Id {
	var l []api.Id
	for _, origin := range origins {
		for _, seq := range seqs {
			l = append(l, api.Id{Origin: origin, Seq: seq})
		}
	}
	return l
}

func pick[T any](r *rand.Rand, l []T) T { return l[r.Intn(len(l))] }

func number(n int) *big.Int { return big.NewInt(int64(n)) }

// rank is a number for each name, which rises as names do: 2^64 is more than any two Seqs are apart.
func rank(id api.Id) *big.Int {
	n := new(big.Int).Lsh(number(id.Origin), 64)
	return n.Add(n, number(id.Seq))
}

// reckonSorted is the names by their ranks, each once.
func reckonSorted(l []api.Id) []api.Id {
	sorted := slices.SortedFunc(slices.Values(l), func(a, b api.Id) int { return rank(a).Cmp(rank(b)) })
	return slices.Compact(sorted)
}

// P12.1

func TestRight(t *testing.T) {
	for _, c := range []struct {
		id    api.Id
		right bool
	}{
		{api.Id{Origin: 0, Seq: 7}, true}, {api.Id{Origin: 3, Seq: 12}, true},
		{api.Id{Origin: -1, Seq: 1}, false}, {api.Id{Origin: 0, Seq: 1}, true}, {api.Id{Origin: 255, Seq: 1}, true}, {api.Id{Origin: 256, Seq: 1}, false},
		{api.Id{Origin: 1, Seq: 0}, false}, {api.Id{Origin: 1, Seq: 1}, true}, {api.Id{Origin: 1, Seq: 4294967296}, true}, {api.Id{Origin: 1, Seq: 4294967297}, false},
		{api.Id{Origin: 0, Seq: 4294967296}, true}, {api.Id{Origin: 255, Seq: 4294967296}, true}, {api.Id{Origin: 256, Seq: 4294967296}, false}, {api.Id{Origin: 255, Seq: 4294967297}, false},
		{api.Id{}, false}, {api.Id{Origin: -1, Seq: 0}, false}, {api.Id{Origin: 256, Seq: 4294967297}, false}, {api.Id{Origin: 1, Seq: -1}, false},
		{api.Id{Origin: math.MinInt, Seq: 1}, false}, {api.Id{Origin: math.MaxInt, Seq: 1}, false}, {api.Id{Origin: 1, Seq: math.MinInt}, false}, {api.Id{Origin: 1, Seq: math.MaxInt}, false},
		{api.Id{Origin: math.MinInt, Seq: math.MinInt}, false}, {api.Id{Origin: math.MaxInt, Seq: math.MaxInt}, false}, {api.Id{Origin: 4294967296, Seq: 255}, false},
	} {
		if right := Right(c.id); right != c.right {
			t.Errorf("%v: %v", c.id, right)
		}
	}
}

func TestRightEvery(t *testing.T) {
	for _, id := range every(allOrigins(), allSeqs()) {
		want := slices.Contains(rightOrigins, id.Origin) && slices.Contains(rightSeqs, id.Seq)
		if right := Right(id); right != want {
			t.Errorf("%v: %v", id, right)
		}
	}
	for origin := -1000; origin <= 1000; origin++ {
		if right := Right(api.Id{Origin: origin, Seq: 1}); right != (origin > -1 && origin < 256) {
			t.Errorf("origin %d: %v", origin, right)
		}
	}
	for off := -1000; off <= 1000; off++ {
		if right := Right(api.Id{Origin: 255, Seq: off}); right != (off > 0) {
			t.Errorf("seq %d: %v", off, right)
		}
		if right := Right(api.Id{Origin: 255, Seq: 4294967296 + off}); right != (off < 1) {
			t.Errorf("seq %d: %v", 4294967296+off, right)
		}
	}
}

func TestBefore(t *testing.T) {
	for _, c := range []struct {
		a, b   api.Id
		before bool
	}{
		{api.Id{Origin: 1, Seq: 9}, api.Id{Origin: 2, Seq: 3}, true}, {api.Id{Origin: 2, Seq: 3}, api.Id{Origin: 1, Seq: 9}, false},
		{api.Id{Origin: 1, Seq: 3}, api.Id{Origin: 2, Seq: 9}, true}, {api.Id{Origin: 2, Seq: 9}, api.Id{Origin: 1, Seq: 3}, false},
		{api.Id{Origin: 1, Seq: 3}, api.Id{Origin: 2, Seq: 3}, true}, {api.Id{Origin: 2, Seq: 3}, api.Id{Origin: 1, Seq: 3}, false},
		{api.Id{Origin: 4, Seq: 3}, api.Id{Origin: 4, Seq: 9}, true}, {api.Id{Origin: 4, Seq: 9}, api.Id{Origin: 4, Seq: 3}, false},
		{api.Id{Origin: 4, Seq: 9}, api.Id{Origin: 4, Seq: 10}, true}, {api.Id{Origin: 9, Seq: 1}, api.Id{Origin: 10, Seq: 1}, true},
		{api.Id{Origin: 4, Seq: 3}, api.Id{Origin: 4, Seq: 3}, false}, {api.Id{Origin: 0, Seq: 1}, api.Id{Origin: 0, Seq: 1}, false}, {api.Id{}, api.Id{}, false},
		{api.Id{Origin: 0, Seq: 4294967296}, api.Id{Origin: 1, Seq: 1}, true}, {api.Id{Origin: 0, Seq: 1}, api.Id{Origin: 255, Seq: 4294967296}, true}, {api.Id{Origin: 255, Seq: 4294967296}, api.Id{Origin: 255, Seq: 4294967296}, false},
		{api.Id{Origin: -1, Seq: 5}, api.Id{Origin: 0, Seq: 1}, true}, {api.Id{Origin: -2, Seq: 5}, api.Id{Origin: -1, Seq: 1}, true}, {api.Id{Origin: 0, Seq: -1}, api.Id{Origin: 0, Seq: 0}, true}, {api.Id{Origin: 0, Seq: 0}, api.Id{Origin: 0, Seq: -1}, false}, {api.Id{Origin: -1, Seq: 1}, api.Id{Origin: -1, Seq: 1}, false},
		{api.Id{Origin: math.MinInt, Seq: 1}, api.Id{Origin: math.MaxInt, Seq: 1}, true}, {api.Id{Origin: math.MaxInt, Seq: 1}, api.Id{Origin: math.MinInt, Seq: 1}, false},
		{api.Id{Origin: 1, Seq: math.MinInt}, api.Id{Origin: 1, Seq: math.MaxInt}, true}, {api.Id{Origin: 1, Seq: math.MaxInt}, api.Id{Origin: 1, Seq: math.MinInt}, false},
		{api.Id{Origin: math.MinInt, Seq: math.MaxInt}, api.Id{Origin: math.MaxInt, Seq: math.MinInt}, true}, {api.Id{Origin: 1, Seq: math.MaxInt}, api.Id{Origin: 2, Seq: math.MinInt}, true},
		{api.Id{Origin: 256, Seq: 1}, api.Id{Origin: 255, Seq: 2}, false}, {api.Id{Origin: 1, Seq: 4294967296}, api.Id{Origin: 1, Seq: 4294967297}, true}, {api.Id{Origin: 1, Seq: 4294967296}, api.Id{Origin: 1, Seq: 1}, false},
	} {
		if before := Before(c.a, c.b); before != c.before {
			t.Errorf("%v ahead of %v: %v", c.a, c.b, before)
		}
	}
}

// names are names of any kind, the ends of their types among them, and some of them by chance.
func names() []api.Id {
	l := every([]int{math.MinInt, -2, -1, 0, 1, 2, 255, 256, 1 << 32, math.MaxInt}, []int{math.MinInt, -1 << 32, -1, 0, 1, 2, 7, 4294967295, 4294967296, 4294967297, math.MaxInt})
	r := rand.New(rand.NewSource(121))
	for range 200 {
		l = append(l, randomName(r))
	}
	return l
}

// randomName is a name of any kind, of which many are alike in their Origin, some in both numbers, and a good part may be.
func randomName(r *rand.Rand) api.Id {
	switch r.Intn(4) {
	case 0:
		return api.Id{Origin: int(r.Uint64()) >> r.Intn(64), Seq: int(r.Uint64()) >> r.Intn(64)}
	case 1:
		return api.Id{Origin: pick(r, allOrigins()), Seq: pick(r, allSeqs())}
	case 2:
		return api.Id{Origin: r.Intn(5) - 1, Seq: r.Intn(6) - 1}
	}
	return api.Id{Origin: r.Intn(256), Seq: 1 + r.Intn(1<<32)}
}

func TestBeforeReckoned(t *testing.T) {
	l := names()
	for _, a := range l {
		for _, b := range l {
			if before := Before(a, b); before != (rank(a).Cmp(rank(b)) < 0) {
				t.Fatalf("%v ahead of %v: %v", a, b, before)
			}
		}
	}
}

// P12.2

func TestPrint(t *testing.T) {
	for _, c := range []struct {
		id api.Id
		s  string
	}{
		{api.Id{Origin: 0, Seq: 7}, "0.7"}, {api.Id{Origin: 3, Seq: 12}, "3.12"}, {api.Id{Origin: 12, Seq: 3}, "12.3"}, {api.Id{Origin: 10, Seq: 100}, "10.100"},
		{api.Id{Origin: 0, Seq: 1}, "0.1"}, {api.Id{Origin: 0, Seq: 4294967296}, "0.4294967296"}, {api.Id{Origin: 255, Seq: 1}, "255.1"}, {api.Id{Origin: 255, Seq: 4294967296}, "255.4294967296"},
		{api.Id{}, "0.0"}, {api.Id{Origin: 256, Seq: 4294967297}, "256.4294967297"}, {api.Id{Origin: -1, Seq: 5}, "-1.5"}, {api.Id{Origin: 5, Seq: -1}, "5.-1"}, {api.Id{Origin: -12, Seq: -345}, "-12.-345"},
		{api.Id{Origin: math.MinInt, Seq: math.MaxInt}, "-9223372036854775808.9223372036854775807"}, {api.Id{Origin: math.MaxInt, Seq: math.MinInt}, "9223372036854775807.-9223372036854775808"},
		{api.Id{Origin: 1 << 32, Seq: 1 << 40}, "4294967296.1099511627776"},
	} {
		if s := Print(c.id); s != c.s {
			t.Errorf("%v: %q, not %q", c.id, s, c.s)
		}
	}
	for _, id := range names() {
		if s, want := Print(id), number(id.Origin).String()+"."+number(id.Seq).String(); s != want {
			t.Errorf("%v: %q, not %q", id, s, want)
		}
	}
}

func checkName(t *testing.T, s string, want api.Id) {
	t.Helper()
	if id, err := Parse(s); id != want || err != nil {
		t.Fatalf("%q: %v %q, not %v", s, id, fail.Text(err), want)
	}
}

func checkError(t *testing.T, s string, code api.Code, places ...int) {
	t.Helper()
	id, err := Parse(s)
	if id != (api.Id{}) {
		t.Fatalf("%q: %v beside an error", s, id)
	}
	if err == nil || fail.Code(err) != code || !errors.Is(err, fail.New(code)) || !slices.Equal(fail.Places(err), places) {
		t.Fatalf("%q: %q, not code %d at %v", s, fail.Text(err), code, places)
	}
}

var (
	whole   = regexp.MustCompile(`\A(0|-?[1-9][0-9]*)\z`)
	started = regexp.MustCompile(`\A(-?|0|-?[1-9][0-9]*)\z`)
)

// misread tells with which code, and where, s is no number's text, or one of a number that is not between two others; OK, if it is one.
func misread(s string, least, most int64) (api.Code, int) {
	for i := range len(s) {
		if !started.MatchString(s[:i+1]) {
			return api.Form, i
		}
	}
	if !whole.MatchString(s) {
		return api.Form, len(s)
	}
	n, _ := new(big.Int).SetString(s, 10)
	if n.Cmp(big.NewInt(least)) < 0 || n.Cmp(big.NewInt(most)) > 0 {
		return api.Range, 0
	}
	return api.OK, 0
}

// checkParse holds Parse of s against numbers without a bound, and says whether it is a name's text.
func checkParse(t *testing.T, s string) bool {
	t.Helper()
	at := slices.Index([]byte(s), 46)
	if at < 0 {
		checkError(t, s, api.Form, len(s))
		return false
	}
	if code, place := misread(s[:at], 0, 255); code != api.OK {
		checkError(t, s, code, 0, place)
		return false
	}
	if code, place := misread(s[at+1:], 1, 4294967296); code != api.OK {
		checkError(t, s, code, 1, place)
		return false
	}
	origin, _ := strconv.Atoi(s[:at])
	seq, _ := strconv.Atoi(s[at+1:])
	checkName(t, s, api.Id{Origin: origin, Seq: seq})
	return true
}

func TestParse(t *testing.T) {
	for _, c := range []struct {
		s  string
		id api.Id
	}{
		{"0.7", api.Id{Origin: 0, Seq: 7}}, {"3.12", api.Id{Origin: 3, Seq: 12}}, {"12.3", api.Id{Origin: 12, Seq: 3}}, {"10.100", api.Id{Origin: 10, Seq: 100}},
		{"0.1", api.Id{Origin: 0, Seq: 1}}, {"0.4294967296", api.Id{Origin: 0, Seq: 4294967296}}, {"255.1", api.Id{Origin: 255, Seq: 1}}, {"255.4294967296", api.Id{Origin: 255, Seq: 4294967296}},
		{"254.4294967295", api.Id{Origin: 254, Seq: 4294967295}}, {"1.2", api.Id{Origin: 1, Seq: 2}}, {"99.2147483648", api.Id{Origin: 99, Seq: 1 << 31}},
	} {
		checkName(t, c.s, c.id)
	}
}

func TestParseNoPoint(t *testing.T) {
	checkError(t, "", api.Form, 0)
	checkError(t, "7", api.Form, 1)
	for _, s := range []string{"0", "x", "-", "-1", "255", "256", "0,7", "0:7", "0 7", "007", " ", "\n", "\x00", "0/7", "99999999999999999999", "0\uff0e7", "0\u00b77", "\u0661", "\xae", "0-7", "abc", strings.Repeat("1", 70000), strings.Repeat("\xff", 70000)} {
		checkError(t, s, api.Form, len(s))
	}
}

func TestParseForm(t *testing.T) {
	for _, c := range []struct {
		s      string
		places []int
	}{
		{".", []int{0, 0}}, {"..", []int{0, 0}}, {"...", []int{0, 0}}, {".7", []int{0, 0}}, {".0.7", []int{0, 0}}, {"0.", []int{1, 0}}, {"255.", []int{1, 0}},
		{"0.7.", []int{1, 1}}, {"0.7.1", []int{1, 1}}, {"0..7", []int{1, 0}}, {"0..", []int{1, 0}}, {"1.23.4", []int{1, 2}}, {"1.4294967296.4", []int{1, 10}}, {"0.7..", []int{1, 1}}, {"127.0.0.1", []int{1, 1}},
		{"x.7", []int{0, 0}}, {"1x.7", []int{0, 1}}, {"12x.7", []int{0, 2}}, {"0.x", []int{1, 0}}, {"0.7x", []int{1, 1}}, {"0.78x", []int{1, 2}}, {"a1.7", []int{0, 0}}, {"0.a1", []int{1, 0}},
		{"x.y", []int{0, 0}}, {"12x.345y", []int{0, 2}}, {"x.", []int{0, 0}}, {".x", []int{0, 0}}, {"-.-", []int{0, 1}}, {"00.00", []int{0, 1}},
		{"00.7", []int{0, 1}}, {"007.7", []int{0, 1}}, {"01.7", []int{0, 1}}, {"0.07", []int{1, 1}}, {"0.007", []int{1, 1}}, {"0.00", []int{1, 1}}, {"0255.1", []int{0, 1}}, {"1.04294967296", []int{1, 1}},
		{"+0.7", []int{0, 0}}, {"+3.7", []int{0, 0}}, {"0.+7", []int{1, 0}}, {"-.7", []int{0, 1}}, {"-0.7", []int{0, 1}}, {"-07.7", []int{0, 1}}, {"--1.7", []int{0, 1}}, {"0.-", []int{1, 1}}, {"0.-0", []int{1, 1}}, {"0.--7", []int{1, 1}}, {"3-.7", []int{0, 1}}, {"0.7-", []int{1, 1}},
		{" 0.7", []int{0, 0}}, {"0 .7", []int{0, 1}}, {"0. 7", []int{1, 0}}, {"0.7 ", []int{1, 1}}, {"0 . 7", []int{0, 1}}, {" .7", []int{0, 0}}, {"0. ", []int{1, 0}}, {"0.7\n", []int{1, 1}}, {"\t0.7", []int{0, 0}}, {"0.7\r\n", []int{1, 1}},
		{"\x000.7", []int{0, 0}}, {"0\x00.7", []int{0, 1}}, {"0.7\x00", []int{1, 1}}, {"\xff.7", []int{0, 0}}, {"0.\xff", []int{1, 0}}, {"\u0661.7", []int{0, 0}}, {"0.1\u0661", []int{1, 1}}, {"\u22121.7", []int{0, 0}},
		{"0x1.7", []int{0, 1}}, {"1.7e3", []int{1, 1}}, {"1_0.7", []int{0, 1}}, {"1.1,000", []int{1, 1}}, {"Inf.1", []int{0, 0}}, {"1.NaN", []int{1, 0}},
		{"99999999999999999999x.7", []int{0, 20}}, {"0.99999999999999999999x", []int{1, 20}}, {"0.9223372036854775807.", []int{1, 19}}, {"0." + strings.Repeat("9", 70000) + ".", []int{1, 70000}},
	} {
		checkError(t, c.s, api.Form, c.places...)
	}
}

func TestParseRange(t *testing.T) {
	vast := []string{"9223372036854775807", "9223372036854775808", "-9223372036854775808", "-9223372036854775809", "18446744073709551615", "18446744073709551616", "18446744073709551617", "-18446744073709551615", "340282366920938463463374607431768211457", strings.Repeat("9", 1000), "-" + strings.Repeat("9", 1000), "1" + strings.Repeat("0", 70000)}
	for _, origin := range slices.Concat([]string{"256", "257", "260", "300", "511", "999", "1000", "65536", "4294967296", "4294967297", "-1", "-2", "-255", "-256"}, vast) {
		for _, behind := range []string{"7", "1", "4294967296", "", "x", "0", "4294967297", "7.1", "-", vast[1]} {
			checkError(t, origin+"."+behind, api.Range, 0, 0)
		}
	}
	for _, seq := range slices.Concat([]string{"0", "4294967297", "4294967298", "4294967300", "5000000000", "8589934592", "8589934593", "10000000000", "1099511627783", "-1", "-7", "-4294967295", "-4294967296"}, vast) {
		for _, ahead := range []string{"0", "1", "255"} {
			checkError(t, ahead+"."+seq, api.Range, 1, 0)
		}
	}
}

// Of an Origin and a Seq that are both wrong the Origin is told, whatever is wrong with them.
func TestParseBothWrong(t *testing.T) {
	form, rang := []string{"", "x", "-", "00", "+1", " ", "1x"}, []string{"-1", "4294967297", strings.Repeat("9", 40)}
	for _, behind := range slices.Concat(form, rang, []string{"0", "1.1", "."}) {
		for _, ahead := range form {
			_, place := misread(ahead, 0, 255)
			checkError(t, ahead+"."+behind, api.Form, 0, place)
		}
		for _, ahead := range append(rang, "256") {
			checkError(t, ahead+"."+behind, api.Range, 0, 0)
		}
	}
}

// upTo are all texts of at most so many of some bytes.
func upTo(most int, some string) []string {
	l := []string{""}
	from := 0
	for range most {
		to := len(l)
		for _, ahead := range l[from:to] {
			for i := range len(some) {
				l = append(l, ahead+some[i:i+1])
			}
		}
		from = to
	}
	return l
}

func TestParseAll(t *testing.T) {
	right := 0
	for _, s := range upTo(6, ".-0256x") {
		if checkParse(t, s) {
			right++
		}
	}
	if right < 500 {
		t.Error("too few texts are names':", right)
	}
}

// Each byte at each place of texts that are right else, and of some that are not.
func TestParseEachByte(t *testing.T) {
	for _, s := range []string{"0.7", "255.4294967296", "10.10", "9.1", "256.1", "1.4294967297", ".", "1..1", "-1.-1"} {
		for at := range len(s) + 1 {
			for c := range 256 {
				checkParse(t, s[:at]+string([]byte{byte(c)})+s[at:])
				if at < len(s) {
					checkParse(t, s[:at]+string([]byte{byte(c)})+s[at+1:])
				}
			}
			checkParse(t, s[:at])
			checkParse(t, s[at:])
		}
	}
}

func TestParseSome(t *testing.T) {
	r := rand.New(rand.NewSource(122))
	right := 0
	for range 40000 {
		s := Print(randomName(r))
		for range r.Intn(3) * r.Intn(2) {
			at := r.Intn(len(s) + 1)
			s = s[:at] + pick(r, []string{"", "0", "1", "9", ".", "-", "+", " ", "x", "\x00", "\xff"}) + s[min(len(s), at+r.Intn(2)):]
		}
		if checkParse(t, s) {
			right++
		}
	}
	if right < 10000 || right > 30000 {
		t.Errorf("%d of 40000 are names' texts: too few of one sort", right)
	}
}

// A name that may be is read of its text again; of one that may not be the number that is wrong is told.
func TestBack(t *testing.T) {
	for _, id := range every(allOrigins(), allSeqs()) {
		switch s := Print(id); {
		case !slices.Contains(rightOrigins, id.Origin):
			checkError(t, s, api.Range, 0, 0)
		case !slices.Contains(rightSeqs, id.Seq):
			checkError(t, s, api.Range, 1, 0)
		default:
			checkName(t, s, id)
		}
	}
	for origin := range 256 {
		for _, seq := range rightSeqs {
			checkName(t, Print(api.Id{Origin: origin, Seq: seq}), api.Id{Origin: origin, Seq: seq})
		}
	}
	for seq := 1; seq <= 20000; seq++ {
		checkName(t, Print(api.Id{Origin: seq % 256, Seq: seq}), api.Id{Origin: seq % 256, Seq: seq})
	}
	for _, id := range names() {
		if got, err := Parse(Print(id)); (err == nil) != Right(id) || err == nil && got != id {
			t.Errorf("%v: %v %q", id, got, fail.Text(err))
		}
	}
}

// A name has one text alone: whatever is parsed is printed just so.
func TestTextBack(t *testing.T) {
	l := upTo(6, ".-+0 19")
	for _, id := range every(rightOrigins, rightSeqs) {
		s := Print(id)
		l = append(l, s, "0"+s, "+"+s, s+"0", " "+s, s+".", strings.Replace(s, ".", ".0", 1))
	}
	count := 0
	for _, s := range l {
		id, err := Parse(s)
		if err != nil {
			continue
		}
		count++
		if got := Print(id); got != s || !Right(id) {
			t.Fatalf("%q is %v, which is printed as %q", s, id, got)
		}
	}
	if count < len(rightOrigins)*len(rightSeqs) {
		t.Error("too few texts are names':", count)
	}
}

// P12.3

func TestOneStandsAhead(t *testing.T) {
	l := names()
	for _, a := range l {
		for _, b := range l {
			ways := 0
			for _, is := range []bool{a == b, Before(a, b), Before(b, a)} {
				if is {
					ways++
				}
			}
			if ways != 1 {
				t.Fatalf("%v and %v: one another %v, ahead %v, behind %v", a, b, a == b, Before(a, b), Before(b, a))
			}
		}
	}
}

func TestAheadOfWhatIsAhead(t *testing.T) {
	l := names()
	rows := 0
	for i, a := range l {
		for _, b := range l {
			if !Before(a, b) {
				continue
			}
			// Some of those behind b, beginning elsewhere each time: all of them would be millions.
			for at := i % 7; at < len(l); at += 7 {
				if Before(b, l[at]) {
					rows++
					if !Before(a, l[at]) {
						t.Fatalf("%v, %v and %v", a, b, l[at])
					}
				}
			}
		}
	}
	if rows < 100000 {
		t.Error("too few rows of three:", rows)
	}
}

// P12.4

// known is what a set is to have in it.
type known map[api.Id]bool

func knownOf(l []api.Id) known {
	k := known{}
	for _, id := range l {
		k[id] = true
	}
	return k
}

func (k known) sorted() []api.Id {
	return reckonSorted(slices.Collect(maps.Keys(k)))
}

func checkAll(t *testing.T, s *Set, want ...api.Id) {
	t.Helper()
	if all := s.All(); !slices.Equal(all, want) {
		t.Fatalf("all: %v, not %v", all, want)
	}
}

// strangers are names that lie beside others: the same numbers the other way round, or cut to fewer bytes.
func strangers(l []api.Id) []api.Id {
	few := []api.Id{{}, {Origin: 0, Seq: 1}, {Origin: 255, Seq: 4294967296}, {Origin: -1, Seq: -1}, {Origin: math.MinInt, Seq: math.MinInt}, {Origin: math.MaxInt, Seq: math.MaxInt}}
	for _, id := range l {
		few = append(few, api.Id{Origin: id.Seq, Seq: id.Origin}, api.Id{Origin: id.Origin, Seq: id.Seq ^ 1}, api.Id{Origin: id.Origin ^ 1, Seq: id.Seq}, api.Id{Origin: id.Origin ^ 256, Seq: id.Seq}, api.Id{Origin: id.Origin, Seq: id.Seq ^ 1<<32}, api.Id{Origin: id.Origin, Seq: id.Seq ^ 1<<62})
	}
	return few
}

// check asks a set for all that it can tell.
func check(t *testing.T, s *Set, want known) {
	t.Helper()
	sorted := want.sorted()
	for range 2 {
		checkAll(t, s, sorted...)
		for _, id := range sorted {
			if !s.Has(id) {
				t.Fatalf("%v is not in %v", id, sorted)
			}
		}
		for _, id := range strangers(sorted) {
			if s.Has(id) != want[id] {
				t.Fatalf("%v is in %v: %v", id, sorted, !want[id])
			}
		}
	}
}

func checkAdd(t *testing.T, s *Set, id api.Id, fresh bool) {
	t.Helper()
	if s.Add(id) != fresh {
		t.Fatalf("add of %v: %v", id, !fresh)
	}
	if !s.Has(id) {
		t.Fatalf("%v is not in behind an add", id)
	}
}

func checkDrop(t *testing.T, s *Set, id api.Id, was bool) {
	t.Helper()
	if s.Drop(id) != was {
		t.Fatalf("drop of %v: %v", id, !was)
	}
	if s.Has(id) {
		t.Fatalf("%v is in behind a drop", id)
	}
}

func TestOf(t *testing.T) {
	a, b, c, odd, other := api.Id{Origin: 0, Seq: 7}, api.Id{Origin: 0, Seq: 10}, api.Id{Origin: 2, Seq: 1}, api.Id{Origin: -1, Seq: 0}, api.Id{Origin: 256, Seq: 4294967297}
	for _, r := range []struct{ l, all []api.Id }{
		{nil, nil}, {[]api.Id{}, nil}, {make([]api.Id, 0, 5), nil}, {[]api.Id{a}, []api.Id{a}}, {[]api.Id{a, a}, []api.Id{a}}, {[]api.Id{a, a, a}, []api.Id{a}},
		{[]api.Id{a, b}, []api.Id{a, b}}, {[]api.Id{b, a}, []api.Id{a, b}}, {[]api.Id{c, b, a}, []api.Id{a, b, c}}, {[]api.Id{b, c, a, c, b}, []api.Id{a, b, c}}, {[]api.Id{a, c, a}, []api.Id{a, c}},
		{[]api.Id{{}}, []api.Id{{}}}, {[]api.Id{{}, {}}, []api.Id{{}}}, {[]api.Id{other, odd}, []api.Id{odd, other}}, {[]api.Id{other, c, {}, a, odd, other}, []api.Id{odd, {}, a, c, other}},
	} {
		s := Of(r.l)
		if s == nil {
			t.Fatalf("of %v: nil", r.l)
		}
		checkAll(t, s, r.all...)
		check(t, s, knownOf(r.l))
	}
	for _, l := range [][]api.Id{names(), every(allOrigins(), allSeqs()), slices.Concat(names(), names())} {
		check(t, Of(l), knownOf(l))
	}
}

// Sets go their own ways, also those of one list.
func TestSetsAreApart(t *testing.T) {
	l := []api.Id{{Origin: 0, Seq: 1}, {Origin: 1, Seq: 2}}
	one, other, none := Of(l), Of(l), Of(nil)
	checkDrop(t, one, l[0], true)
	checkAdd(t, one, api.Id{Origin: 9, Seq: 9}, true)
	checkAll(t, one, l[1], api.Id{Origin: 9, Seq: 9})
	checkAll(t, other, l...)
	checkAll(t, none)
	checkAdd(t, none, l[1], true)
	checkAll(t, Of(nil))
	checkAll(t, Of(l), l...)
}

func TestAddAndDrop(t *testing.T) {
	for _, id := range []api.Id{{Origin: 0, Seq: 7}, {Origin: 255, Seq: 4294967296}, {}, {Origin: -1, Seq: -1}, {Origin: 256, Seq: 0}, {Origin: math.MinInt, Seq: math.MaxInt}, {Origin: math.MaxInt, Seq: math.MinInt}} {
		low, high := api.Id{Origin: math.MinInt, Seq: math.MinInt}, api.Id{Origin: math.MaxInt, Seq: math.MaxInt}
		s := Of([]api.Id{high, low})
		checkDrop(t, s, id, false)
		checkAll(t, s, low, high)
		checkAdd(t, s, id, true)
		checkAll(t, s, low, id, high)
		checkAdd(t, s, id, false)
		checkAdd(t, s, id, false)
		checkAll(t, s, low, id, high)
		checkDrop(t, s, id, true)
		checkAll(t, s, low, high)
		checkDrop(t, s, id, false)
		checkAll(t, s, low, high)
		checkAdd(t, s, id, true)
		checkAdd(t, s, low, false)
		checkDrop(t, s, low, true)
		checkDrop(t, s, high, true)
		checkAll(t, s, id)
		checkDrop(t, s, id, true)
		check(t, s, known{})
		checkAdd(t, s, high, true)
		checkAll(t, s, high)
	}
}

// A name that was given twice is there once: one Drop takes it out.
func TestTwiceIsOnce(t *testing.T) {
	id := api.Id{Origin: 1, Seq: 1}
	s := Of([]api.Id{id, id, id})
	checkAdd(t, s, id, false)
	checkDrop(t, s, id, true)
	checkDrop(t, s, id, false)
	checkAll(t, s)
}

// To ask for a name does not put it in.
func TestHasPutsNothingIn(t *testing.T) {
	s, l := Of(nil), names()
	for _, id := range l {
		if s.Has(id) || s.Drop(id) || s.Has(id) {
			t.Fatalf("%v is in", id)
		}
	}
	checkAll(t, s)
	for _, id := range reckonSorted(l) {
		checkAdd(t, s, id, true)
	}
}

func TestMixed(t *testing.T) {
	r := rand.New(rand.NewSource(123))
	for range 60 {
		few := make([]api.Id, 1+r.Intn(40))
		for i := range few {
			few[i] = randomName(r)
		}
		s, want := Of(few[:len(few)/3]), knownOf(few[:len(few)/3])
		for range 300 {
			switch id := pick(r, few); r.Intn(5) {
			case 0, 1:
				checkAdd(t, s, id, !want[id])
				want[id] = true
			case 2, 3:
				checkDrop(t, s, id, want[id])
				delete(want, id)
			default:
				if s.Has(id) != want[id] {
					t.Fatalf("%v is in: %v", id, !want[id])
				}
			}
			if r.Intn(8) == 0 {
				checkAll(t, s, want.sorted()...)
			}
		}
		check(t, s, want)
	}
}

// Many names, put in and taken out in mixed order, are told rising.
func TestMany(t *testing.T) {
	r := rand.New(rand.NewSource(124))
	l := make([]api.Id, 20000)
	for i := range l {
		l[i] = api.Id{Origin: i % 50, Seq: i/50 + 1}
	}
	want := reckonSorted(l)
	r.Shuffle(len(l), func(i, j int) { l[i], l[j] = l[j], l[i] })
	s := Of(l)
	checkAll(t, s, want...)
	for _, id := range l[:15000] {
		checkDrop(t, s, id, true)
	}
	checkAll(t, s, reckonSorted(l[15000:])...)
	for i, id := range l[5000:] {
		checkAdd(t, s, id, i < 10000)
	}
	checkAll(t, s, reckonSorted(l[5000:])...)
}

func TestNilSet(t *testing.T) {
	var s *Set
	for _, id := range []api.Id{{}, {Origin: 0, Seq: 7}, {Origin: -1, Seq: math.MaxInt}} {
		for range 2 {
			if s.Has(id) || s.Add(id) || s.Drop(id) || s.Has(id) || len(s.All()) > 0 {
				t.Fatalf("a nil set has %v", id)
			}
		}
	}
}

// Sets that Of did not make are empty, and may be used.
func TestPlainSet(t *testing.T) {
	a, b := api.Id{Origin: 0, Seq: 7}, api.Id{Origin: 0, Seq: 9}
	firsts := []func(s *Set) bool{
		func(s *Set) bool { return !s.Has(a) },
		func(s *Set) bool { return !s.Drop(a) },
		func(s *Set) bool { return len(s.All()) == 0 },
		func(s *Set) bool { return s.Add(a) && s.Drop(a) },
	}
	for i, first := range firsts {
		var plain Set
		for _, s := range []*Set{{}, new(Set), &plain} {
			if !first(s) {
				t.Fatalf("%d of a plain set", i)
			}
			check(t, s, known{})
			checkAdd(t, s, b, true)
			checkAdd(t, s, b, false)
			checkAdd(t, s, a, true)
			checkAll(t, s, a, b)
			checkDrop(t, s, b, true)
			checkDrop(t, s, b, false)
			check(t, s, known{a: true})
		}
	}
}

// What is handed in and out

// roomy is a list with spare room behind it, and that room too.
func roomy(l []api.Id) (list, whole []api.Id) {
	spare := api.Id{Origin: 9, Seq: -9}
	whole = append(slices.Clone(l), spare, spare, spare, spare)
	return whole[:len(l)], whole
}

// spoil gives each name of a list, and of its spare room, another value.
func spoil(l []api.Id) {
	l = l[:cap(l)]
	for i := range l {
		l[i] = api.Id{Origin: 77, Seq: 777}
	}
}

func TestNothingHandedInIsChanged(t *testing.T) {
	r := rand.New(rand.NewSource(125))
	for range 500 {
		l := make([]api.Id, r.Intn(12))
		for i := range l {
			l[i] = randomName(r)
		}
		given, whole := roomy(l)
		kept := slices.Clone(whole)
		s := Of(given)
		for range 10 {
			s.Add(randomName(r))
			s.Drop(pick(r, whole))
			s.Has(pick(r, whole))
			s.All()
		}
		if !slices.Equal(whole, kept) {
			t.Fatalf("%v was changed to %v", kept, whole)
		}
	}
}

// A set is as it was, whatever becomes of the list that it was made of, and of what it told; and so is each list that it told.
func TestNothingIsShared(t *testing.T) {
	r := rand.New(rand.NewSource(126))
	for range 500 {
		l := make([]api.Id, r.Intn(12))
		for i := range l {
			l[i] = randomName(r)
		}
		want := knownOf(l)
		given, whole := roomy(l)
		s := Of(given)
		spoil(whole)
		check(t, s, want)
		sorted := want.sorted()
		one, two := s.All(), s.All()
		spoil(one)
		if !slices.Equal(two, sorted) {
			t.Fatalf("an answer was changed by way of another one: %v, not %v", two, sorted)
		}
		check(t, s, want)
		three := s.All()
		for _, id := range sorted {
			s.Drop(id)
		}
		s.Add(api.Id{Origin: 55, Seq: 555})
		s.All()
		if !slices.Equal(two, sorted) || !slices.Equal(three, sorted) {
			t.Fatalf("an answer was changed by way of the set: %v and %v, not %v", two, three, sorted)
		}
	}
}

// What is told hangs on nothing that was asked ahead of it, nor on the order in which names were put in.
func TestSameAgain(t *testing.T) {
	l := names()
	want := Of(l).All()
	r := rand.New(rand.NewSource(127))
	for range 20 {
		r.Shuffle(len(l), func(i, j int) { l[i], l[j] = l[j], l[i] })
		checkAll(t, Of(l), want...)
	}
	for range 3 {
		checkError(t, "7", api.Form, 1)
		checkName(t, "0.7", api.Id{Origin: 0, Seq: 7})
		checkError(t, "0.0", api.Range, 1, 0)
		checkName(t, "0.7", api.Id{Origin: 0, Seq: 7})
	}
}
