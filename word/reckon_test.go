package word

import (
	"fmt"
	"math"
	"math/rand"
	"strconv"
	"strings"
	"testing"
)

// told is a word, and whether there is one.
type told struct {
	w  uint64
	is bool
}

func (x told) String() string { return fmt.Sprintf("%#x (%v)", x.w, x.is) }

// number is the number of binary digits.
func number(digits string) uint64 {
	n, err := strconv.ParseUint(digits, 2, 64)
	if err != nil {
		panic(err)
	}
	return n
}

// counted is both counts, read of the word's digits as a text: eight of no matter, forty, and sixteen.
func counted(w uint64) (came, in int) {
	digits := fmt.Sprintf("%064b", w)
	return int(number(digits[8:48])), int(number(digits[48:]))
}

// pack puts a word together of both counts' digits as texts.
func pack(came, in int) told {
	first, behind := fmt.Sprintf("%040b", came), fmt.Sprintf("%016b", in)
	if came < 0 || in < 0 || len(first) > 40 || len(behind) > 16 {
		return told{}
	}
	return told{number(first + behind), true}
}

func enter(w uint64, most int) told {
	came, in := counted(w)
	if in >= most {
		return told{}
	}
	return pack(came+1, in+1)
}

func leave(w uint64, n int) told {
	came, in := counted(w)
	if n < 0 || n > in {
		return told{}
	}
	return pack(came, in-n)
}

// checkCounts holds what all three tell of a word, and that the word of both counts has just their digits.
func checkCounts(t *testing.T, w uint64, came, in int) {
	t.Helper()
	if n := Came(w); n != came {
		t.Errorf("%#x: %d came, and not %d", w, n, came)
	}
	if n := In(w); n != in {
		t.Errorf("%#x: %d are in, and not %d", w, n, in)
	}
	if both := Both(w); both != [2]int{came, in} {
		t.Errorf("%#x: both are %v, and not %d and %d", w, both, came, in)
	}
	if again, is := Pack(came, in); !is || again != w&0x00ffffffffffffff {
		t.Errorf("%d and %d: %#x (%v), and not the digits of %#x", came, in, again, is, w)
	}
}

// plain is two counts that nobody packs.
type plain struct{ came, in int }

// enters holds an Enter against both counts; it tells the word as it is then.
func (p *plain) enters(t *testing.T, w uint64, most int) uint64 {
	t.Helper()
	to, is := Enter(w, most)
	if let := p.in < most && p.in != mostIn && p.came != mostCame; is != let {
		t.Fatalf("%v, most %d: let in %v, and not %v", *p, most, is, let)
	}
	if !is {
		return p.refused(t, w, to)
	}
	p.came++
	p.in++
	if p.in > most {
		t.Fatalf("%v is above %d", *p, most)
	}
	return p.is(t, to)
}

// leaves holds a Leave against both counts; it tells the word as it is then.
func (p *plain) leaves(t *testing.T, w uint64, n int) uint64 {
	t.Helper()
	to, is := Leave(w, n)
	if may := 0 <= n && n <= p.in; is != may {
		t.Fatalf("%v, %d less: %v, and not %v", *p, n, is, may)
	}
	if !is {
		return p.refused(t, w, to)
	}
	p.in -= n
	return p.is(t, to)
}

// refused holds that nothing was told, and tells the word as it was.
func (p *plain) refused(t *testing.T, w, to uint64) uint64 {
	t.Helper()
	if to != 0 {
		t.Fatalf("%v: %#x, and false", *p, to)
	}
	return p.is(t, w)
}

// is holds that a word has both counts, and nothing else.
func (p *plain) is(t *testing.T, w uint64) uint64 {
	t.Helper()
	if both := Both(w); both != [2]int{p.came, p.in} || Came(w) != p.came || In(w) != p.in || w>>56 != 0 {
		t.Fatalf("%#x has %v, and not %v", w, both, *p)
	}
	return w
}

// someCounts are ints about each end that is named, about each power of two, and any others.
func someCounts(r *rand.Rand) []int {
	l := []int{0, 1, 2, 5, 31, 32, 33, mostIn - 1, mostIn, mostIn + 1, mostCame - 1, mostCame, mostCame + 1, -1, -2, -mostIn, -mostCame, math.MaxInt, math.MaxInt - 1, math.MinInt, math.MinInt + 1}
	for i := range 63 {
		l = append(l, 1<<i-1, 1<<i, 1<<i+1, -1<<i)
	}
	for range 20 {
		l = append(l, r.Intn(mostIn+1), r.Intn(mostCame+1), int(r.Uint64()))
	}
	return l
}

// someWords are words of which one part has no digit, or all of them, or just one, and any others.
func someWords(r *rand.Rand) []uint64 {
	l := []uint64{0, math.MaxUint64}
	for _, hex := range []string{"ff 0000000000 0000", "00 ffffffffff 0000", "00 0000000000 ffff", "00 ffffffffff ffff", "ff 0000000000 ffff", "ff ffffffffff 0000", "00 fffffffffe ffff", "00 ffffffffff fffe", "00 fffffffffe fffe", "a5 fffffffffe fffe", "01 0000000001 0001", "80 0000000000 0001", "80 0000000001 0000"} {
		w, err := strconv.ParseUint(strings.ReplaceAll(hex, " ", ""), 16, 64)
		if err != nil {
			panic(err)
		}
		l = append(l, w)
	}
	for i := range 64 {
		l = append(l, 1<<i, 1<<i-1, ^(uint64(1) << i))
	}
	for range 100 {
		l = append(l, r.Uint64(), r.Uint64()&0xffff, r.Uint64()&0x00ffffffffff0000, r.Uint64()|0xff<<56)
	}
	return l
}
