package digits

import (
	"errors"
	"math"
	"math/big"
	"math/rand"
	"regexp"
	"slices"
	"strconv"
	"strings"
	"testing"

	"philtre/api"
	"philtre/fail"
)

const (
	leastText    = "-9223372036854775808"
	greatestText = "9223372036854775807"
)

type row struct {
	n int64
	s string
}

func rows() []row {
	return []row{
		{0, "0"}, {1, "1"}, {7, "7"}, {9, "9"}, {10, "10"}, {42, "42"}, {99, "99"}, {100, "100"}, {101, "101"}, {1000000, "1000000"},
		{-1, "-1"}, {-7, "-7"}, {-9, "-9"}, {-10, "-10"}, {-42, "-42"}, {-100, "-100"}, {-101, "-101"}, {-1000000, "-1000000"},
		{1234567890, "1234567890"}, {-1234567890, "-1234567890"},
		{math.MaxInt32, "2147483647"}, {math.MaxInt32 + 1, "2147483648"}, {math.MinInt32, "-2147483648"}, {math.MinInt32 - 1, "-2147483649"},
		{math.MaxUint32, "4294967295"}, {1 << 32, "4294967296"}, {-1 << 32, "-4294967296"},
		{999999999999999999, "999999999999999999"}, {1000000000000000000, "1000000000000000000"}, {-1000000000000000000, "-1000000000000000000"},
		{math.MaxInt64 - 1, "9223372036854775806"}, {math.MaxInt64, greatestText},
		{math.MinInt64 + 1, "-9223372036854775807"}, {math.MinInt64, leastText},
	}
}

// numbers are those at and beside each power of two and of ten, on both sides of 0, and some others.
func numbers() []int64 {
	l := []int64{math.MinInt64, math.MinInt64 + 1, math.MaxInt64 - 1, math.MaxInt64}
	for i := range 63 {
		l = beside(l, 1<<i)
	}
	for n := int64(1); n <= math.MaxInt64/10; n *= 10 {
		l = beside(l, n)
	}
	r := rand.New(rand.NewSource(31))
	for range 2000 {
		l = append(l, int64(r.Uint64())>>r.Intn(64))
	}
	return l
}

func beside(l []int64, n int64) []int64 {
	return append(l, n-1, n, n+1, -n-1, -n, -n+1)
}

// edges are numbers whose sums may leave the range, or just don't.
func edges() []int64 {
	l := []int64{0, 1, 2, 3, 1000, 1 << 31, 1 << 32, 1 << 53}
	for _, n := range slices.Clone(l) {
		l = append(l, -n, math.MaxInt64-n, math.MinInt64+n, 1<<62-n, 1<<62+n, -1<<62-n, -1<<62+n)
	}
	return l
}

var (
	whole   = regexp.MustCompile(`\A(0|-?[1-9][0-9]*)\z`)
	started = regexp.MustCompile(`\A(-?|0|-?[1-9][0-9]*)\z`)
)

// formed tells at which place s is no number's text, by what a text of each length may be; -1, where it is one.
func formed(s string) int {
	for i := range len(s) {
		if !started.MatchString(s[:i+1]) {
			return i
		}
	}
	if !whole.MatchString(s) {
		return len(s)
	}
	return -1
}

// upTo are all texts of at most so many of some bytes.
func upTo(most int, some string) []string {
	l := []string{""}
	from := 0
	for range most {
		to := len(l)
		for _, ahead := range l[from:to] {
			for i := range len(some) {
				l = append(l, ahead+some[i:i+1])
			}
		}
		from = to
	}
	return l
}

func checkNumber(t *testing.T, what, s string, n int64, err error, want int64) {
	t.Helper()
	if n != want || err != nil {
		t.Fatalf("%s of %q: %d %v, not %d", what, s, n, err, want)
	}
}

func checkError(t *testing.T, what, s string, n int64, err error, place int, code api.Code) {
	t.Helper()
	if n != 0 {
		t.Fatalf("%s of %q: %d beside an error", what, s, n)
	}
	if fail.Code(err) != code || !errors.Is(err, fail.New(code)) || !slices.Equal(fail.Places(err), []int{place}) {
		t.Fatalf("%s of %q: %q, not code %d at %d", what, s, fail.Text(err), code, place)
	}
}

// checkParse holds Parse of s, and Within of all numbers, against numbers without a bound.
func checkParse(t *testing.T, s string) {
	t.Helper()
	n, err := Parse(s)
	among, amongErr := Within(s, math.MinInt64, math.MaxInt64)
	if place := formed(s); place >= 0 {
		checkError(t, "Parse", s, n, err, place, api.Form)
		checkError(t, "Within", s, among, amongErr, place, api.Form)
		return
	}
	want, _ := new(big.Int).SetString(s, 10)
	if !want.IsInt64() {
		checkError(t, "Parse", s, n, err, 0, api.Range)
		checkError(t, "Within", s, among, amongErr, 0, api.Range)
		return
	}
	checkNumber(t, "Parse", s, n, err, want.Int64())
	checkNumber(t, "Within", s, among, amongErr, want.Int64())
}

// P3.1

func TestPrint(t *testing.T) {
	for _, r := range rows() {
		if s := Print(r.n); s != r.s {
			t.Errorf("%d: %q", r.n, s)
		}
	}
	for _, n := range numbers() {
		s := Print(n)
		if want := big.NewInt(n).String(); s != want {
			t.Errorf("%q, not %q", s, want)
		}
		if !whole.MatchString(s) {
			t.Errorf("%q is no number's text", s)
		}
	}
}

func TestParse(t *testing.T) {
	for _, r := range rows() {
		n, err := Parse(r.s)
		checkNumber(t, "Parse", r.s, n, err, r.n)
	}
}

func TestParseForm(t *testing.T) {
	for _, c := range []struct {
		s     string
		place int
	}{
		{"", 0}, {"-", 1}, {"+", 0}, {"+5", 0}, {"+0", 0}, {"+-5", 0}, {"-+5", 1}, {"--", 1}, {"--5", 1}, {"5-", 1}, {"12-34", 2}, {"0-", 1}, {"-5-", 2},
		{"-07", 1}, {"12a", 2}, {"007", 1}, {"00", 1}, {"01", 1}, {"09", 1}, {"0a", 1}, {"0 ", 1}, {"000000000000000000000000", 1}, {"-0", 1}, {"-00", 1}, {"-0a", 1}, {"-a", 1},
		{"a", 0}, {"a5", 0}, {"a-", 0}, {"x-5", 0}, {" ", 0}, {" 1", 0}, {"1 ", 1}, {"- 1", 1}, {"1\n", 1}, {"\n1", 0}, {"\x00", 0}, {"1\x00", 1}, {"\xff", 0}, {"3\xff", 1},
		{"1_000", 1}, {"1,000", 1}, {"1.5", 1}, {".5", 0}, {"1e5", 1}, {"0x10", 1}, {"0b1", 1}, {"0o7", 1}, {"nil", 0}, {"Inf", 0}, {"-Inf", 1}, {"NaN", 0},
		{"\u0661", 0}, {"1\u0661", 1}, {"\uff11", 0}, {"\u22125", 0}, {"/", 0}, {":", 0}, {"1/", 1}, {"1:", 1}, {"-/", 1}, {"-:", 1},
	} {
		n, err := Parse(c.s)
		checkError(t, "Parse", c.s, n, err, c.place, api.Form)
	}
}

func TestParseRange(t *testing.T) {
	for _, s := range []string{
		"9223372036854775808", "9223372036854775809", "9223372036854775810", "9223372036854775817", "9999999999999999999", "10000000000000000000", "92233720368547758070",
		"-9223372036854775809", "-9223372036854775810", "-9223372036854775818", "-9999999999999999999", "-10000000000000000000", "-92233720368547758080",
		"18446744073709551615", "18446744073709551616", "18446744073709551617", "-18446744073709551616", "36893488147419103232", "340282366920938463463374607431768211456",
		strings.Repeat("9", 1000), "-" + strings.Repeat("9", 1000), "1" + strings.Repeat("0", 70000), "-1" + strings.Repeat("0", 70000), strings.Repeat("1", api.MaxText),
	} {
		n, err := Parse(s)
		checkError(t, "Parse", s, n, err, 0, api.Range)
	}
}

// Of two things that are wrong the first one is told; and Form, however great the number ahead of it is.
func TestParseFirstWrong(t *testing.T) {
	for _, c := range []struct {
		s     string
		place int
	}{
		{"0a7", 1}, {"00a", 1}, {"-0-", 1}, {"1a+b", 1}, {"12 34 ", 2}, {"+a", 0}, {"--a", 1}, {"007 ", 1},
		{"9223372036854775808a", 19}, {"-9223372036854775809a", 20}, {"99999999999999999999 ", 20}, {"18446744073709551616-", 20},
		{"00000000000000000000099999999999999999999999", 1}, {"-09999999999999999999999999", 1}, {"+99999999999999999999999", 0},
		{strings.Repeat("9", 70000) + "x", 70000}, {"-" + strings.Repeat("9", 70000) + "xy", 70001}, {strings.Repeat("9", 500) + "-" + strings.Repeat("9", 500), 500},
	} {
		n, err := Parse(c.s)
		checkError(t, "Parse", c.s, n, err, c.place, api.Form)
	}
}

// Each byte at each place of texts that are right else.
func TestParseEachByte(t *testing.T) {
	for _, s := range []string{"0", "5", "-5", "10", "-10", "907", "-120", "1234567890", greatestText, leastText, "9223372036854775808", strings.Repeat("8", 30)} {
		for at := range len(s) + 1 {
			for c := range 256 {
				checkParse(t, s[:at]+string([]byte{byte(c)})+s[at:])
				if at < len(s) {
					checkParse(t, s[:at]+string([]byte{byte(c)})+s[at+1:])
				}
			}
		}
	}
}

func TestParseAll(t *testing.T) {
	for _, s := range upTo(6, "-+019a") {
		checkParse(t, s)
	}
	for _, s := range upTo(2, "-0567899a") {
		for _, ahead := range []string{"92233720368547758", "-92233720368547758", "922337203685477580", "-922337203685477580", greatestText, leastText} {
			checkParse(t, ahead+s)
		}
	}
}

func TestParseSome(t *testing.T) {
	r := rand.New(rand.NewSource(32))
	const some = "-00123456789"
	for range 20000 {
		b := make([]byte, r.Intn(24))
		for i := range b {
			b[i] = some[r.Intn(len(some))]
		}
		checkParse(t, string(b))
	}
}

// P3.2

func TestSum(t *testing.T) {
	const least, greatest = math.MinInt64, math.MaxInt64
	for _, c := range []struct {
		a, b, sum int64
		ok        bool
	}{
		{0, 0, 0, true}, {1, 2, 3, true}, {-1, -2, -3, true}, {5, -7, -2, true}, {-5, 7, 2, true}, {5, -5, 0, true},
		{greatest, 0, greatest, true}, {greatest - 1, 1, greatest, true}, {greatest, 1, 0, false}, {greatest - 1, 2, 0, false}, {greatest, greatest, 0, false},
		{least, 0, least, true}, {least + 1, -1, least, true}, {least, -1, 0, false}, {least + 1, -2, 0, false}, {least, least, 0, false},
		{greatest, least, -1, true}, {greatest, -1, greatest - 1, true}, {least, 1, least + 1, true}, {greatest, -greatest, 0, true},
		{1 << 62, 1<<62 - 1, greatest, true}, {1 << 62, 1 << 62, 0, false}, {-1 << 62, -1 << 62, least, true}, {-1 << 62, -1<<62 - 1, 0, false},
		{greatest/2 + 1, greatest / 2, greatest, true}, {greatest/2 + 1, greatest/2 + 1, 0, false},
	} {
		if sum, ok := Sum(c.a, c.b); sum != c.sum || ok != c.ok {
			t.Errorf("%d and %d: %d %t", c.a, c.b, sum, ok)
		}
	}
}

func TestSumEdges(t *testing.T) {
	for _, a := range edges() {
		for _, b := range edges() {
			checkSum(t, a, b)
		}
	}
	l := numbers()
	for i := range l {
		checkSum(t, l[i], l[len(l)-1-i])
		checkSum(t, l[i], math.MaxInt64-l[i]&math.MaxInt64)
		checkSum(t, l[i], math.MinInt64+l[i]&math.MaxInt64)
	}
}

func checkSum(t *testing.T, a, b int64) {
	t.Helper()
	want := new(big.Int).Add(big.NewInt(a), big.NewInt(b))
	sum, ok := Sum(a, b)
	if ok != want.IsInt64() || ok && sum != want.Int64() || !ok && sum != 0 {
		t.Fatalf("%d and %d: %d %t, not %v", a, b, sum, ok, want)
	}
}

func TestWithin(t *testing.T) {
	for _, c := range []struct {
		s              string
		least, most, n int64
	}{
		{"5", 1, 9, 5}, {"1", 1, 9, 1}, {"9", 1, 9, 9}, {"2", 1, 9, 2}, {"8", 1, 9, 8}, {"0", 0, 0, 0}, {"0", -1, 1, 0}, {"7", 7, 7, 7}, {"-7", -7, -7, -7},
		{"-5", -9, -1, -5}, {"-9", -9, -1, -9}, {"-1", -9, -1, -1}, {"-3", -3, 3, -3}, {"3", -3, 3, 3}, {"255", 0, 255, 255}, {"4294967296", 0, 4294967296, 4294967296},
		{leastText, math.MinInt64, math.MaxInt64, math.MinInt64}, {greatestText, math.MinInt64, math.MaxInt64, math.MaxInt64},
		{leastText, math.MinInt64, math.MinInt64, math.MinInt64}, {greatestText, math.MaxInt64, math.MaxInt64, math.MaxInt64},
	} {
		n, err := Within(c.s, c.least, c.most)
		checkNumber(t, "Within", c.s, n, err, c.n)
	}
}

func TestWithinRange(t *testing.T) {
	for _, c := range []struct {
		s           string
		least, most int64
	}{
		{"0", 1, 9}, {"10", 1, 9}, {"-5", 1, 9}, {"-10", -9, -1}, {"0", -9, -1}, {"5", -9, -1}, {"1", 0, 0}, {"-1", 0, 0}, {"6", 7, 7}, {"8", 7, 7}, {"256", 0, 255}, {"4294967297", 0, 4294967296},
		{"5", 9, 1}, {"1", 9, 1}, {"9", 9, 1}, {"0", 1, -1}, {"0", math.MaxInt64, math.MinInt64}, {leastText, math.MaxInt64, math.MinInt64}, {greatestText, math.MaxInt64, math.MinInt64},
		{leastText, math.MinInt64 + 1, math.MaxInt64}, {greatestText, math.MinInt64, math.MaxInt64 - 1}, {"-9223372036854775807", math.MinInt64, math.MinInt64}, {"9223372036854775806", math.MaxInt64, math.MaxInt64},
		{"9223372036854775808", math.MinInt64, math.MaxInt64}, {"-9223372036854775809", math.MinInt64, math.MaxInt64}, {"9223372036854775808", 0, 0}, {strings.Repeat("9", 1000), 9, 1},
	} {
		n, err := Within(c.s, c.least, c.most)
		checkError(t, "Within", c.s, n, err, 0, api.Range)
	}
}

// A text that is none is told so, at its place, whatever it should be within.
func TestWithinForm(t *testing.T) {
	for _, c := range []struct {
		s     string
		place int
	}{
		{"", 0}, {"-", 1}, {"+5", 0}, {"-07", 1}, {"12a", 2}, {"007", 1}, {"-0", 1}, {"99999999999999999999a", 20},
	} {
		for _, bounds := range [][2]int64{{math.MinInt64, math.MaxInt64}, {0, 0}, {100, 200}, {9, 1}, {math.MaxInt64, math.MinInt64}} {
			n, err := Within(c.s, bounds[0], bounds[1])
			checkError(t, "Within", c.s, n, err, c.place, api.Form)
		}
	}
}

func TestWithinEdges(t *testing.T) {
	for _, n := range edges() {
		for _, least := range edges() {
			for _, most := range edges() {
				got, err := Within(strconv.FormatInt(n, 10), least, most)
				if least <= n && n <= most {
					checkNumber(t, "Within", Print(n), got, err, n)
				} else {
					checkError(t, "Within", Print(n), got, err, 0, api.Range)
				}
			}
		}
	}
}

// P3.3

func TestBack(t *testing.T) {
	for n := int64(-20000); n <= 20000; n++ {
		checkBack(t, n)
	}
	for _, n := range numbers() {
		checkBack(t, n)
	}
}

func checkBack(t *testing.T, n int64) {
	t.Helper()
	s := Print(n)
	got, err := Parse(s)
	checkNumber(t, "Parse", s, got, err, n)
	got, err = Within(s, n, n)
	checkNumber(t, "Within", s, got, err, n)
}

// A number has one text alone: whatever is parsed is printed just so.
func TestTextBack(t *testing.T) {
	l := upTo(6, "-+0 19")
	for _, r := range rows() {
		l = append(l, r.s, "0"+r.s, "+"+r.s, r.s+"0", " "+r.s, strings.Replace(r.s, "-", "-0", 1))
	}
	count := 0
	for _, s := range l {
		n, err := Parse(s)
		if err != nil {
			continue
		}
		count++
		if got := Print(n); got != s {
			t.Fatalf("%q is printed as %q", s, got)
		}
	}
	if count < len(rows()) {
		t.Error("too few texts are numbers':", count)
	}
}

func TestSumOrder(t *testing.T) {
	for _, a := range edges() {
		for _, b := range edges() {
			one, ok := Sum(a, b)
			other, too := Sum(b, a)
			if one != other || ok != too {
				t.Fatalf("%d and %d: %d %t, and %d %t", a, b, one, ok, other, too)
			}
		}
	}
}

// Three numbers, two of them summed ahead: wherever both ways stay within the range they tell the same.
func TestSumOfThree(t *testing.T) {
	r := rand.New(rand.NewSource(33))
	l := append(edges(), numbers()...)
	for range 200000 {
		a, b, c := l[r.Intn(len(l))], l[r.Intn(len(l))], l[r.Intn(len(l))]
		one, ok := sumOf(a, b, c)
		other, too := sumOf(c, b, a)
		if ok && too && one != other {
			t.Fatalf("%d, %d and %d: %d, and %d", a, b, c, one, other)
		}
	}
}

func sumOf(a, b, c int64) (int64, bool) {
	sum, ok := Sum(a, b)
	if !ok {
		return 0, false
	}
	return Sum(sum, c)
}
