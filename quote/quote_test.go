package quote

import (
	"errors"
	"fmt"
	"math/rand"
	"regexp"
	"slices"
	"strings"
	"testing"

	"philtre/api"
	"philtre/fail"
)

// themselves are the bytes that stand for themselves, as the chapter names them.
const themselves = "abcdefghijklmnopqrstuvwxyz" + "ABCDEFGHIJKLMNOPQRSTUVWXYZ" + "0123456789" + ".:/_"

// units are what words of one byte look like, by the byte: what a longer word is put together of.
func units() []string {
	l := make([]string, 256)
	for c := range l {
		l[c] = fmt.Sprintf("%%%02x", c)
	}
	for i := range len(themselves) {
		l[themselves[i]] = themselves[i : i+1]
	}
	return l
}

// reader tells what words come to by looking for the units that they begin with.
type reader struct {
	bytes  map[string]byte
	begins map[string]bool
}

func newReader() reader {
	r := reader{map[string]byte{}, map[string]bool{}}
	for c, u := range units() {
		r.bytes[u] = byte(c)
		for i := range len(u) + 1 {
			r.begins[u[:i]] = true
		}
	}
	return r
}

// whole has the bytes that a word might hide, those that needn't be hidden too.
var whole = regexp.MustCompile(`\A%[0-9a-f]{2}`)

// read tells the text of a word, or what is wrong with it, and where.
func (r reader) read(w string) (string, api.Code, int) {
	if w == "-" {
		return "", api.OK, 0
	}
	if w == "" {
		return "", api.Short, 0
	}
	var text []byte
	for from := 0; from < len(w); {
		to := from + 1
		for to < len(w) && r.begins[w[from:to]] && !r.has(w[from:to]) {
			to++
		}
		u := w[from:to]
		switch {
		case r.has(u):
			text = append(text, r.bytes[u])
			from = to
		case r.begins[u]:
			return "", api.Short, len(w)
		case whole.MatchString(u):
			return "", api.Form, from
		default:
			return "", api.Form, to - 1
		}
	}
	return string(text), api.OK, 0
}

func (r reader) has(unit string) bool {
	_, ok := r.bytes[unit]
	return ok
}

// texts are of all bytes, of runes of each length, and of bytes that are no part of any rune.
func texts() []string {
	every := make([]byte, 256)
	for i := range every {
		every[i] = byte(i)
	}
	l := []string{"", "-", "--", "a", "a b", " ", "\n", "%", "%%", "%61", "%20", "%-", "a-b", "-a", "a-", themselves, string(every)}
	l = append(l, "\u00e4", "\u20ac", "\U0001f600", "\ufffd", "x\u00e4y\u20acz\U0001f600", "\u00e4\u00e4\u00e4", "\u0661\uff11", "\u2028\u00a0\ufeff")
	l = append(l, "\x80", "\xff", "\xc3", "\xa4\xc3", "\xe2\x82", "\xf0\x9f\x98", "a\xc3a", "\xed\xa0\x80", "\xc0\xaf", "\xf4\x90\x80\x80", "\xff\u00e4\xff")
	slices.Reverse(every)
	l = append(l, string(every), strings.Repeat("x", 70000), strings.Repeat("\xff", 70000), strings.Repeat("a\u20ac ", 20000))
	r := rand.New(rand.NewSource(41))
	for n := range 3000 {
		b := make([]byte, n%50)
		for i := range b {
			b[i] = byte(r.Intn(256))
		}
		l = append(l, string(b))
	}
	return l
}

// upTo are all texts of at most so many of some bytes.
func upTo(most int, some string) []string {
	l := []string{""}
	from := 0
	for range most {
		to := len(l)
		for _, ahead := range l[from:to] {
			for i := range len(some) {
				l = append(l, ahead+some[i:i+1])
			}
		}
		from = to
	}
	return l
}

func checkError(t *testing.T, what, s string, err error, place int, code api.Code) {
	t.Helper()
	if fail.Code(err) != code || !errors.Is(err, fail.New(code)) || !slices.Equal(fail.Places(err), []int{place}) {
		t.Fatalf("%s of %q: %q, not code %d at %d", what, s, fail.Text(err), code, place)
	}
}

func checkParseError(t *testing.T, w string, place int, code api.Code) {
	t.Helper()
	s, err := Parse(w)
	if s != "" {
		t.Fatalf("Parse of %q: %q beside an error", w, s)
	}
	checkError(t, "Parse", w, err, place, code)
}

// checkParse holds Parse of w against what its units come to.
func checkParse(t *testing.T, r reader, w string) {
	t.Helper()
	want, code, place := r.read(w)
	if code != api.OK {
		checkParseError(t, w, place, code)
		return
	}
	if s, err := Parse(w); s != want || err != nil {
		t.Fatalf("Parse of %q: %q %v, not %q", w, s, err, want)
	}
}

func sameRows(one, other [][]string) bool {
	return slices.EqualFunc(one, other, slices.Equal[[]string])
}

func checkSplit(t *testing.T, s string, want [][]string) {
	t.Helper()
	if l, err := Split(s); err != nil || !sameRows(l, want) {
		t.Fatalf("Split of %q: %q %v, not %q", s, l, err, want)
	}
}

func checkSplitError(t *testing.T, s string, place int) {
	t.Helper()
	l, err := Split(s)
	if l != nil {
		t.Fatalf("Split of %q: %q beside an error", s, l)
	}
	checkError(t, "Split", s, err, place, api.Form)
}

// P4.1

func TestPrint(t *testing.T) {
	for _, c := range []struct{ s, want string }{
		{"", "-"}, {"-", "%2d"}, {"--", "%2d%2d"}, {"-a", "%2da"}, {"a-", "a%2d"}, {"a-b", "a%2db"}, {" ", "%20"}, {"a b", "a%20b"}, {"  ", "%20%20"},
		{"a", "a"}, {"key", "key"}, {"Key.1:/_", "Key.1:/_"}, {themselves, themselves}, {"0", "0"}, {"-7", "%2d7"}, {".", "."}, {"/a/b", "/a/b"},
		{"%", "%25"}, {"%61", "%2561"}, {"%%", "%25%25"}, {"%-", "%25%2d"}, {"\n", "%0a"}, {"\x00", "%00"}, {"a\x00", "a%00"}, {"\t\r\n", "%09%0d%0a"}, {"\x1f\x7f", "%1f%7f"},
		{"`{@[^|", "%60%7b%40%5b%5e%7c"}, {"+,;<=>?!", "%2b%2c%3b%3c%3d%3e%3f%21"}, {"\"#$&'()*\\]}~", "%22%23%24%26%27%28%29%2a%5c%5d%7d%7e"},
		{"\x80", "%80"}, {"\xff", "%ff"}, {"\xab\xcd\xef", "%ab%cd%ef"}, {"\u00e4", "%c3%a4"}, {"x\u20acy", "x%e2%82%acy"}, {"\U0001f600", "%f0%9f%98%80"}, {"\ufffd", "%ef%bf%bd"},
		{"\xc3", "%c3"}, {"\xe2\x82", "%e2%82"}, {"\xc3a", "%c3a"}, {"\xff\u00e4\xff", "%ff%c3%a4%ff"}, {"\u0661", "%d9%a1"}, {"\u00e4\u00e4", "%c3%a4%c3%a4"},
	} {
		if w := Print(c.s); w != c.want {
			t.Errorf("%q: %q, not %q", c.s, w, c.want)
		}
	}
}

func TestPrintEachByte(t *testing.T) {
	l := units()
	for c, u := range l {
		one := string([]byte{byte(c)})
		for s, want := range map[string]string{one: u, one + one: u + u, "a" + one + "9": "a" + u + "9", " " + one: "%20" + u, one + "\xff": u + "%ff", "-" + one: "%2d" + u} {
			if w := Print(s); w != want {
				t.Errorf("%q: %q, not %q", s, w, want)
			}
		}
	}
	for c, u := range l {
		for d, v := range l {
			if w := Print(string([]byte{byte(c), byte(d)})); w != u+v {
				t.Fatalf("%d and %d: %q", c, d, w)
			}
		}
	}
}

func TestPrintTexts(t *testing.T) {
	l := units()
	for _, s := range append(texts(), strings.Repeat("\u20ac-", api.MaxText/4)) {
		var want strings.Builder
		for i := range len(s) {
			want.WriteString(l[s[i]])
		}
		if s == "" {
			want.WriteString("-")
		}
		if w := Print(s); w != want.String() {
			t.Fatalf("%.100q: %.100q, not %.100q", s, w, want.String())
		}
	}
}

// P4.2

func TestParse(t *testing.T) {
	for _, c := range []struct{ w, want string }{
		{"-", ""}, {"%2d", "-"}, {"%2d%2d", "--"}, {"a%2d", "a-"}, {"a", "a"}, {"Z", "Z"}, {"0", "0"}, {"9", "9"}, {themselves, themselves}, {"a%20b", "a b"}, {"%20", " "}, {"%0a", "\n"}, {"%00", "\x00"},
		{"%25", "%"}, {"%2561", "%61"}, {"%25%25", "%%"}, {"%252d", "%2d"}, {"%20a", " a"}, {"%2020", " 20"}, {"%2d2d", "-2d"}, {"%80", "\x80"}, {"%ff", "\xff"}, {"%fff", "\xfff"},
		{"%c3%a4", "\u00e4"}, {"x%e2%82%acy", "x\u20acy"}, {"%ef%bf%bd", "\ufffd"}, {"%c3", "\xc3"}, {"%a4%c3", "\xa4\xc3"}, {"%60%7b%40%5b", "`{@["}, {"Key.1:/_%2b", "Key.1:/_+"},
	} {
		if s, err := Parse(c.w); s != c.want || err != nil {
			t.Errorf("%q: %q %v, not %q", c.w, s, err, c.want)
		}
	}
}

func TestParseForm(t *testing.T) {
	for _, c := range []struct {
		w     string
		place int
	}{
		{"--", 0}, {"-a", 0}, {"a-", 1}, {"a-b", 1}, {"-%20", 0}, {"%20-", 3}, {"---", 0}, {"- ", 0}, {" -", 0}, {"%2d-", 3}, {"-7", 0},
		{" ", 0}, {"a b", 1}, {"a ", 1}, {"\n", 0}, {"a\n", 1}, {"\x00", 0}, {"a\x00", 1}, {"+", 0}, {"a+b", 1}, {"a,b", 1}, {"a=b", 1}, {"~", 0}, {"`", 0}, {"{", 0}, {"@", 0}, {"[", 0}, {";", 0}, {"!", 0}, {"ab#", 2},
		{"\x80", 0}, {"\xff", 0}, {"a\x80", 1}, {"abc\xff", 3}, {"\u00e4", 0}, {"a\u00e4b", 1}, {"ab\u20ac", 2}, {"\U0001f600", 0}, {"\ufffd", 0}, {"a\xc3", 1}, {"a\xa4", 1}, {"%20\u00e4", 3},
		{"%g0", 1}, {"%0g", 2}, {"%%", 1}, {"%%20", 1}, {"%2%", 2}, {"%-", 1}, {"%--", 1}, {"%2-", 2}, {"% 0", 1}, {"%0 ", 2}, {"%+1", 1}, {"%x0", 1}, {"%0x", 2}, {"%_0", 1}, {"%2_", 2}, {"%/0", 1}, {"%:0", 1}, {"%`0", 1}, {"%0/", 2}, {"%0:", 2}, {"%0`", 2}, {"%0@", 2},
		{"%2D", 2}, {"%2B", 2}, {"%0A", 2}, {"%A0", 1}, {"%FF", 1}, {"%fF", 2}, {"%Ff", 1}, {"%C3%A4", 1}, {"%c3%A4", 4}, {"%6A", 2}, {"%2G", 2}, {"%G2", 1},
		{"%\x80", 1}, {"%2\xff", 2}, {"%\u00e4", 1}, {"%2\u00e4", 2}, {"%\u0661\u0661", 1}, {"%\x00", 1}, {"%2\n", 2}, {"a%zz", 2}, {"ab%2z", 4},
		{"%61", 0}, {"%7a", 0}, {"%41", 0}, {"%5a", 0}, {"%30", 0}, {"%39", 0}, {"%2e", 0}, {"%3a", 0}, {"%2f", 0}, {"%5f", 0}, {"a%61", 1}, {"%20%61", 3}, {"%20a%7a", 4}, {"%61%20", 0}, {"%610", 0},
	} {
		checkParseError(t, c.w, c.place, api.Form)
	}
}

func TestParseShort(t *testing.T) {
	for _, w := range []string{"", "%", "%2", "%6", "%0", "%f", "a%", "a%2", "%20%", "%20%2", "%25%", "%c3%a", "abc%7", themselves + "%", themselves + "%e", strings.Repeat("a", 70000) + "%"} {
		checkParseError(t, w, len(w), api.Short)
	}
}

// Of two things that are wrong the first one is told, even where the end is lacking too.
func TestParseFirstWrong(t *testing.T) {
	for _, c := range []struct {
		w     string
		place int
	}{
		{"+%", 0}, {"-%", 0}, {"-%2", 0}, {"a-%", 1}, {"%61%", 0}, {"%61%2", 0}, {"%61+", 0}, {"%61%61", 0}, {"+%61", 0}, {"%g", 1}, {"%A", 1}, {"%2G%", 2}, {"%g%", 1}, {"%%", 1}, {"%2%", 2},
		{"%G\xff", 1}, {"\xff%G", 0}, {"% %", 1}, {"\u00e4%", 0}, {"%6\u00e4", 2}, {"%GG", 1}, {"%61-", 0}, {"%20%61%g", 3}, {"%20%g%61", 4}, {"a%20 %", 4}, {"%2e%2", 0},
	} {
		checkParseError(t, c.w, c.place, api.Form)
	}
}

// Each byte alone, and at each place of words that are right else.
func TestParseEachByte(t *testing.T) {
	r := newReader()
	for _, w := range []string{"", "-", "a", "%20", "%2d", "%ff", "a%20b", "%25%25", "ab.9", "%c3%a4", "%61"} {
		for at := range len(w) + 1 {
			for c := range 256 {
				checkParse(t, r, w[:at]+string([]byte{byte(c)})+w[at:])
				if at < len(w) {
					checkParse(t, r, w[:at]+string([]byte{byte(c)})+w[at+1:])
				}
			}
		}
	}
}

// Any two bytes behind a %.
func TestParseEachTwo(t *testing.T) {
	r := newReader()
	for c := range 256 {
		for d := range 256 {
			two := string([]byte{byte(c), byte(d)})
			checkParse(t, r, two)
			checkParse(t, r, "%"+two)
			checkParse(t, r, "a%"+two+"%")
		}
	}
}

func TestParseAll(t *testing.T) {
	r := newReader()
	for _, w := range upTo(6, "%-26aD") {
		checkParse(t, r, w)
	}
	for _, w := range upTo(5, "%05fF/ \xc3\xa4") {
		checkParse(t, r, w)
	}
}

func TestParseSome(t *testing.T) {
	r := newReader()
	random := rand.New(rand.NewSource(42))
	l := units()
	for range 20000 {
		var b strings.Builder
		for range random.Intn(20) {
			b.WriteString(l[random.Intn(256)])
		}
		w := b.String()
		checkParse(t, r, w)
		if w != "" {
			at := random.Intn(len(w))
			checkParse(t, r, w[:at])
			checkParse(t, r, w[:at]+w[at+1:])
			checkParse(t, r, w[:at]+string([]byte{byte(random.Intn(256))})+w[at+1:])
		}
	}
}

func TestParseLong(t *testing.T) {
	const count = api.MaxText / 3
	w := strings.Repeat("%2d", count)
	if s, err := Parse(w); s != strings.Repeat("-", count) || err != nil {
		t.Fatal(len(s), err)
	}
	checkParseError(t, w+"-", len(w), api.Form)
	checkParseError(t, w+"%61", len(w), api.Form)
	checkParseError(t, w+"%", len(w)+1, api.Short)
}

// P4.3

func TestBack(t *testing.T) {
	l := append(texts(), upTo(5, "a-% \n\xc3\xa4")...)
	for c := range 256 {
		for d := range 256 {
			l = append(l, string([]byte{byte(c), byte(d)}))
		}
	}
	for _, s := range l {
		w := Print(s)
		if got, err := Parse(w); got != s || err != nil {
			t.Fatalf("%.100q comes back of %.100q as %.100q %v", s, w, got, err)
		}
		if strings.ContainsAny(w, " \n") || w == "" {
			t.Fatalf("%.100q is no word of a line", w)
		}
	}
}

// A text has one word alone: whatever is parsed is printed just so.
func TestWordBack(t *testing.T) {
	l := append(upTo(6, "%-26aD"), upTo(5, "%0fF/e ")...)
	l = append(l, units()...)
	for c := range 256 {
		l = append(l, fmt.Sprintf("%%%02x", c), fmt.Sprintf("%%%02X", c), string([]byte{byte(c)}))
	}
	count := 0
	for _, w := range l {
		s, err := Parse(w)
		if err != nil {
			continue
		}
		count++
		if got := Print(s); got != w {
			t.Fatalf("%q is printed as %q", w, got)
		}
	}
	if count < 2*256 {
		t.Error("too few are words:", count)
	}
}

// P4.4

func TestLines(t *testing.T) {
	for _, c := range []struct {
		l    [][]string
		want string
	}{
		{nil, ""}, {[][]string{}, ""}, {[][]string{nil}, "\n"}, {[][]string{{}}, "\n"}, {[][]string{{}, nil, {}}, "\n\n\n"}, {[][]string{{"a"}}, "a\n"}, {[][]string{{"a", "b"}}, "a b\n"},
		{[][]string{{"a", "b", "c"}}, "a b c\n"}, {[][]string{{"a"}, {"b"}}, "a\nb\n"}, {[][]string{{"a", "b"}, {"c"}, {"d", "e", "f"}}, "a b\nc\nd e f\n"}, {[][]string{{"a"}, {}, {"b", "c"}}, "a\n\nb c\n"},
		{[][]string{{}, {"a"}}, "\na\n"}, {[][]string{{"a"}, {}}, "a\n\n"}, {[][]string{{"error", "1", "0"}}, "error 1 0\n"}, {[][]string{{"-"}, {"-", "-"}}, "-\n- -\n"}, {[][]string{{"a%20b", "%0a"}}, "a%20b %0a\n"},
		{[][]string{{"%", "--", "+"}}, "% -- +\n"}, {[][]string{{"\x00", "\xff", "\u00e4\xc3"}}, "\x00 \xff \u00e4\xc3\n"}, {[][]string{{strings.Repeat("x", 70000), "y"}}, strings.Repeat("x", 70000) + " y\n"},
	} {
		if s := Lines(c.l); s != c.want {
			t.Errorf("%q: %q, not %q", c.l, s, c.want)
		}
	}
}

// What is handed in stays as it is, and so does what stands in its spare room.
func TestLinesChangesNothing(t *testing.T) {
	room := []string{"a", "b", "spare"}
	all := [][]string{room[:2], {"c"}, {"spare"}}
	if s := Lines(all[:2]); s != "a b\nc\n" {
		t.Errorf("%q", s)
	}
	if !slices.Equal(room, []string{"a", "b", "spare"}) || !sameRows(all, [][]string{{"a", "b"}, {"c"}, {"spare"}}) {
		t.Errorf("%q %q", room, all)
	}
}

func TestSplit(t *testing.T) {
	for _, c := range []struct {
		s    string
		want [][]string
	}{
		{"", nil}, {"a\n", [][]string{{"a"}}}, {"a b\n", [][]string{{"a", "b"}}}, {"a b c\n", [][]string{{"a", "b", "c"}}}, {"a\nb\n", [][]string{{"a"}, {"b"}}},
		{"error 1 0\nend\n", [][]string{{"error", "1", "0"}, {"end"}}}, {"a b\nc\nd e f\n", [][]string{{"a", "b"}, {"c"}, {"d", "e", "f"}}}, {"a\na\na\n", [][]string{{"a"}, {"a"}, {"a"}}},
		{"-\n", [][]string{{"-"}}}, {"% -- +\n", [][]string{{"%", "--", "+"}}}, {"%61 %\n", [][]string{{"%61", "%"}}}, {"a\tb\r\n", [][]string{{"a\tb\r"}}}, {"\x00\n", [][]string{{"\x00"}}}, {"\v\f \t\n", [][]string{{"\v\f", "\t"}}},
		{"\u00e4 \u20ac\n\U0001f600\n", [][]string{{"\u00e4", "\u20ac"}, {"\U0001f600"}}}, {"\xff \xc3\n\xe2\x82\n", [][]string{{"\xff", "\xc3"}, {"\xe2\x82"}}}, {"\u00a0\u2028\u0085 \u3000\n", [][]string{{"\u00a0\u2028\u0085", "\u3000"}}},
		{"\xe2 \xf0\x9f\n\xc3 a\n", [][]string{{"\xe2", "\xf0\x9f"}, {"\xc3", "a"}}}, {strings.Repeat("x", 70000) + " y\n", [][]string{{strings.Repeat("x", 70000), "y"}}},
	} {
		checkSplit(t, c.s, c.want)
	}
}

// Each byte that is neither a blank nor a line feed is a word, and part of one.
func TestSplitEachByte(t *testing.T) {
	for c := range 256 {
		w := string([]byte{byte(c)})
		switch w {
		case " ":
			checkSplitError(t, w+"\n", 0)
			checkSplit(t, "a"+w+"b\n", [][]string{{"a", "b"}})
		case "\n":
			checkSplitError(t, w, 0)
			checkSplit(t, "a"+w+"b\n", [][]string{{"a"}, {"b"}})
		default:
			checkSplit(t, w+"\n", [][]string{{w}})
			checkSplit(t, "a"+w+"b "+w+"\n"+w+w+"\n", [][]string{{"a" + w + "b", w}, {w + w}})
		}
	}
}

// What is no line, as the first one, behind others, and ahead of others.
func TestSplitForm(t *testing.T) {
	for _, line := range []string{
		"\n", " \n", "  \n", "   \n", " a\n", "a \n", "  a\n", "a  \n", "a  b\n", "a   b\n", "a b  c\n", "a  b c\n", " a b\n", "a b \n", " a b \n", "\u00e4  \u00e4\n", " \xff\n", "\xff \n", "long words  side by side\n",
	} {
		checkSplitError(t, line, 0)
		for _, ahead := range []string{"x\n", "x y\n", "x\ny z\n", "\u00e4 \xff\n", strings.Repeat("x y\n", 1000)} {
			checkSplitError(t, ahead+line, len(ahead))
			checkSplitError(t, ahead+line+"x y\n", len(ahead))
			checkSplitError(t, ahead+line+"x", len(ahead))
			checkSplitError(t, ahead+line+line, len(ahead))
		}
	}
	for _, end := range []string{"a", "a b", " ", " a", "a ", "a  b", "-", "\r", "\u00e4", "\xff", "\x00", strings.Repeat("x", 70000)} {
		checkSplitError(t, end, 0)
		for _, ahead := range []string{"x\n", "x y\n", "x\ny z\n", "\u00e4 \xff\n"} {
			checkSplitError(t, ahead+end, len(ahead))
		}
	}
}

var oneLine = regexp.MustCompile(`\A[^ \n]+( [^ \n]+)*\n`)

// splitByLine tells the rows of s, or where the first line that is none begins; -1, if all are lines.
func splitByLine(s string) ([][]string, int) {
	var l [][]string
	for rest := s; rest != ""; {
		line := oneLine.FindString(rest)
		if line == "" {
			return nil, len(s) - len(rest)
		}
		l = append(l, strings.Split(strings.TrimSuffix(line, "\n"), " "))
		rest = rest[len(line):]
	}
	return l, -1
}

func TestSplitAll(t *testing.T) {
	l := append(upTo(9, "a \n"), upTo(6, "ab \n\xc3\xa4")...)
	count := 0
	for _, s := range l {
		want, place := splitByLine(s)
		if place >= 0 {
			checkSplitError(t, s, place)
			continue
		}
		count++
		checkSplit(t, s, want)
		rows, _ := Split(s)
		if got := Lines(rows); got != s {
			t.Fatalf("%q comes back as %q", s, got)
		}
	}
	if count < 1000 {
		t.Error("too few texts are lines:", count)
	}
}

// Nobody's list shares room with another one, nor with what a later call answers.
func TestSplitIsNew(t *testing.T) {
	const s = "a b\nc\nd e f\n"
	want := [][]string{{"a", "b"}, {"c"}, {"d", "e", "f"}}
	one, err := Split(s)
	if err != nil {
		t.Fatal(err)
	}
	for i := range one {
		_ = append(one[i], "grown", "more")
		one[i][0] = "changed"
		for j := i + 1; j < len(one); j++ {
			if !slices.Equal(one[j], want[j]) {
				t.Errorf("%q, when row %d has grown", one, i)
			}
		}
		if !slices.Equal(one[i][1:], want[i][1:]) {
			t.Errorf("%q, when row %d has grown", one, i)
		}
	}
	checkSplit(t, s, want)
}

func TestRowsBack(t *testing.T) {
	random := rand.New(rand.NewSource(43))
	words := []string{"a", "b1", "-", "%20", "%", "--", "\x00", "\xff", "\u00e4", "\xc3", "\t\r", strings.Repeat("long", 100)}
	for n := range 3000 {
		l := make([][]string, n%7)
		for i := range l {
			for range 1 + random.Intn(5) {
				l[i] = append(l[i], words[random.Intn(len(words))])
			}
		}
		checkSplit(t, Lines(l), l)
	}
}

// Texts of any bytes come back of lines of their words.
func TestTextsBack(t *testing.T) {
	l := texts()
	var rows [][]string
	for i := 0; i < len(l); i += 3 {
		var row []string
		for _, s := range l[i:min(i+3, len(l))] {
			row = append(row, Print(s))
		}
		rows = append(rows, row)
	}
	got, err := Split(Lines(rows))
	if err != nil {
		t.Fatal(err)
	}
	at := 0
	for _, w := range slices.Concat(got...) {
		if s, err := Parse(w); s != l[at] || err != nil {
			t.Fatalf("%.100q comes back as %.100q %v", l[at], s, err)
		}
		at++
	}
	if at != len(l) {
		t.Error(at, "texts of", len(l))
	}
}
