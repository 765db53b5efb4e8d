package word

import (
	"math"
	"math/rand"
	"testing"
)

const (
	mostCame = 1099511627775 // 2^40 - 1
	mostIn   = 65535         // 2^16 - 1
)

// P20.1: Pack and the counts

func TestExample(t *testing.T) {
	if w, is := Pack(1, 1); w != 65537 || !is {
		t.Fatal(w, is)
	}
}

func TestPack(t *testing.T) {
	for _, c := range []struct {
		came, in int
		want     uint64
	}{
		{0, 0, 0}, {0, 1, 1}, {1, 0, 65536}, {1, 1, 65537}, {2, 3, 131075}, {300, 7, 19660807},
		{0, 65534, 65534}, {0, 65535, 65535}, {1, 65534, 131070}, {1, 65535, 131071},
		{1099511627774, 0, 0x00fffffffffe0000}, {1099511627775, 0, 0x00ffffffffff0000}, {1099511627774, 1, 0x00fffffffffe0001}, {1099511627775, 1, 0x00ffffffffff0001},
		{1099511627774, 65534, 0x00fffffffffefffe}, {1099511627774, 65535, 0x00fffffffffeffff}, {1099511627775, 65534, 0x00fffffffffffffe}, {1099511627775, 65535, 0x00ffffffffffffff},
		{65535, 65535, 0xffffffff}, {65536, 65535, 0x10000ffff}, {1 << 39, 1 << 15, 0x0080000000008000}, {1<<32 + 1, 255, 0x00010000000100ff},
	} {
		if w, is := Pack(c.came, c.in); w != c.want || !is {
			t.Errorf("%d and %d: %#x (%v), and not %#x", c.came, c.in, w, is, c.want)
		}
	}
}

// Each count that may not be, with one that may be, and with another one that may not.
func TestPackOfWhatMayNotBe(t *testing.T) {
	came := []int{1099511627776, 1099511627777, 1 << 41, 1 << 48, 1<<48 + 5, 1<<56 + 5, 1 << 62, math.MaxInt - 1, math.MaxInt, -1, -2, -1099511627775, -1099511627776, -1 << 48, -1<<48 + 5, math.MinInt + 5, math.MinInt + 1, math.MinInt}
	in := []int{65536, 65537, 1 << 17, 1<<32 + 5, 1 << 40, 1 << 48, 1<<56 + 5, 1 << 62, math.MaxInt - 1, math.MaxInt, -1, -2, -65535, -65536, -1<<32 + 5, math.MinInt + 5, math.MinInt + 1, math.MinInt}
	refused := func(came, in int) {
		t.Helper()
		if w, is := Pack(came, in); w != 0 || is {
			t.Errorf("%d and %d: %#x (%v)", came, in, w, is)
		}
	}
	for _, bad := range came {
		for _, may := range []int{0, 1, 5, 65534, 65535} {
			refused(bad, may)
		}
		for _, other := range in {
			refused(bad, other)
		}
	}
	for _, bad := range in {
		for _, may := range []int{0, 1, 5, 65535, 65536, 1099511627774, 1099511627775} {
			refused(may, bad)
		}
	}
}

func TestPackOfAny(t *testing.T) {
	r := rand.New(rand.NewSource(201))
	some := someCounts(r)
	for _, came := range some {
		for _, in := range some {
			w, is := Pack(came, in)
			if want := pack(came, in); (told{w, is}) != want {
				t.Fatalf("%d and %d: %#x (%v), and not %v", came, in, w, is, want)
			}
			if is {
				checkCounts(t, w, came, in)
			}
		}
	}
}

func TestCounts(t *testing.T) {
	for _, c := range []struct {
		w        uint64
		came, in int
	}{
		{0, 0, 0}, {1, 0, 1}, {2, 0, 2}, {65534, 0, 65534}, {65535, 0, 65535}, {65536, 1, 0}, {65537, 1, 1}, {131071, 1, 65535}, {131072, 2, 0},
		{1 << 15, 0, 32768}, {1 << 16, 1, 0}, {1 << 55, 1 << 39, 0}, {1 << 56, 0, 0}, {1 << 63, 0, 0},
		{0x000000000000ffff, 0, mostIn}, {0x00ffffffffff0000, mostCame, 0}, {0x00ffffffffffffff, mostCame, mostIn},
		{0xff00000000000000, 0, 0}, {math.MaxUint64, mostCame, mostIn}, {0xff00000000000001, 0, 1}, {0xff00000000010000, 1, 0}, {0xff0000000000ffff, 0, mostIn}, {0xffffffffffff0000, mostCame, 0},
		{0x80fffffffffe0000, mostCame - 1, 0}, {0x01fffffffffefffe, mostCame - 1, mostIn - 1}, {0x0123456789abcdef, 0x23456789ab, 0xcdef}, {0xfedcba9876543210, 0xdcba987654, 0x3210},
	} {
		checkCounts(t, c.w, c.came, c.in)
	}
}

// Each count of any word, whatever its eight greatest digits are.
func TestCountsOfAny(t *testing.T) {
	for _, w := range someWords(rand.New(rand.NewSource(202))) {
		came, in := counted(w)
		for top := range uint64(256) {
			checkCounts(t, w&^(255<<56)|top<<56, came, in)
		}
	}
}

// Each of the 64 digits alone, and all but one.
func TestDigitsOfCounts(t *testing.T) {
	for i := range 64 {
		came, in := 0, 0
		switch {
		case i < 16:
			in = 1 << i
		case i < 56:
			came = 1 << (i - 16)
		}
		checkCounts(t, 1<<i, came, in)
		checkCounts(t, ^(uint64(1) << i), mostCame-came, mostIn-in)
	}
}

// P20.2: Enter, Leave

func TestEnter(t *testing.T) {
	for _, c := range []struct {
		came, in, most int
	}{
		{0, 0, 1}, {0, 0, 2}, {0, 0, math.MaxInt}, {5, 0, 1}, {5, 1, 2}, {5, 1, 3}, {5, 31, 32}, {0, 31, 32},
		{5, 65533, 65534}, {5, 65534, 65535}, {5, 65534, 65536}, {5, 65534, 65537}, {5, 65534, 1 << 20}, {5, 65534, math.MaxInt}, {5, 0, 65536}, {5, 7, 1<<32 + 1}, {5, 0, 1 << 16}, {5, 0, 1 << 62},
		{mostCame - 1, 0, 1}, {mostCame - 1, 5, 6}, {mostCame - 1, 65534, math.MaxInt}, {mostCame - 2, 0, 1}, {65535, 65534, 65535}, {65535, 0, 1}, {1<<32 - 1, 3, 4},
	} {
		w, _ := Pack(c.came, c.in)
		let, is := Enter(w, c.most)
		if !is {
			t.Errorf("%d and %d, most %d: nobody is let in", c.came, c.in, c.most)
		}
		checkCounts(t, let, c.came+1, c.in+1)
	}
}

func TestEnterOfNobody(t *testing.T) {
	for _, c := range []struct {
		what           string
		came, in, most int
	}{
		{"most of 0", 0, 0, 0}, {"most of 0", 5, 1, 0}, {"most below 0", 0, 0, -1}, {"most below 0", 5, 3, -2}, {"most far below 0", 0, 0, -65536}, {"the least most", 5, 0, math.MinInt}, {"the least most", mostCame, mostIn, math.MinInt}, {"nearly the least most", 5, 0, math.MinInt + 1},
		{"In is most", 1, 1, 1}, {"In is most", 5, 2, 2}, {"In is most", 5, 32, 32}, {"In is most", 5, 65534, 65534}, {"In is most", 5, 65535, 65535}, {"In is most", 0, 7, 7},
		{"In is above most", 5, 2, 1}, {"In is above most", 5, 65535, 65534}, {"In is above most", 5, 65535, 0}, {"In is far above most", 5, 65534, 1},
		{"In is the greatest", 5, 65535, 65536}, {"In is the greatest", 5, 65535, 65537}, {"In is the greatest", 0, 65535, 1 << 40}, {"In is the greatest", 5, 65535, math.MaxInt},
		{"Came is the greatest", mostCame, 0, 1}, {"Came is the greatest", mostCame, 0, math.MaxInt}, {"Came is the greatest", mostCame, 5, 32}, {"Came is the greatest", mostCame, 65534, 65535},
		{"both are the greatest", mostCame, mostIn, 65536}, {"both are the greatest", mostCame, mostIn, math.MaxInt}, {"both are the greatest", mostCame, mostIn, mostIn}, {"both are the greatest", mostCame, mostIn, 0},
	} {
		w, _ := Pack(c.came, c.in)
		for _, top := range []uint64{0, 1, 128, 255} {
			if let, is := Enter(w|top<<56, c.most); let != 0 || is {
				t.Errorf("%s: %d and %d, most %d: %#x (%v)", c.what, c.came, c.in, c.most, let, is)
			}
		}
	}
}

// The eight greatest digits are 0 in what is told, whatever they were.
func TestEnterOfAnyTop(t *testing.T) {
	for top := range uint64(256) {
		for _, low := range []uint64{0, 1, 65536, 65537, 65534, 0x00fffffffffe0000, 0x00fffffffffefffe} {
			if let, is := Enter(top<<56|low, 65535); let != low+65537 || !is {
				t.Errorf("%#x: %#x (%v), and not %#x", top<<56|low, let, is, low+65537)
			}
		}
	}
}

// Each In with a few of most about it.
func TestEnterOfEachIn(t *testing.T) {
	for in := range 65536 {
		for _, came := range []int{0, 7, mostCame - 1, mostCame} {
			w := 0xa5<<56 | uint64(came)*65536 + uint64(in)
			for _, most := range []int{in - 1, in, in + 1, 65535, 65536} {
				want := told{}
				if in < most && in < 65535 && came < mostCame {
					want = told{uint64(came+1)*65536 + uint64(in+1), true}
				}
				if let, is := Enter(w, most); (told{let, is}) != want {
					t.Fatalf("%d and %d, most %d: %#x (%v), and not %v", came, in, most, let, is, want)
				}
			}
		}
	}
}

func TestEnterOfAny(t *testing.T) {
	r := rand.New(rand.NewSource(203))
	mosts := someCounts(r)
	for _, w := range someWords(r) {
		_, in := counted(w)
		for _, most := range append([]int{in - 1, in, in + 1}, mosts...) {
			let, is := Enter(w, most)
			if want := enter(w, most); (told{let, is}) != want {
				t.Fatalf("%#x, most %d: %#x (%v), and not %v", w, most, let, is, want)
			}
		}
	}
}

func TestLeave(t *testing.T) {
	for _, c := range []struct {
		came, in, n int
	}{
		{0, 0, 0}, {5, 0, 0}, {5, 1, 0}, {5, 1, 1}, {5, 3, 1}, {5, 3, 2}, {5, 3, 3}, {0, 3, 3}, {5, 32, 32}, {5, 65535, 0}, {5, 65535, 1}, {5, 65535, 65534}, {5, 65535, 65535},
		{mostCame, 0, 0}, {mostCame, 1, 1}, {mostCame, 65535, 65535}, {mostCame, 65535, 0}, {65535, 256, 255}, {1 << 39, 4096, 4095}, {0, 65535, 65535},
	} {
		w, _ := Pack(c.came, c.in)
		left, is := Leave(w, c.n)
		if !is {
			t.Errorf("%d and %d, %d less: nobody leaves", c.came, c.in, c.n)
		}
		checkCounts(t, left, c.came, c.in-c.n)
	}
}

func TestLeaveOfNobody(t *testing.T) {
	for _, c := range []struct {
		what        string
		came, in, n int
	}{
		{"one above In", 0, 0, 1}, {"one above In", 5, 0, 1}, {"one above In", 5, 1, 2}, {"one above In", 5, 32, 33}, {"one above In", 5, 65534, 65535}, {"one above In", mostCame, 65535, 65536}, {"one above In", 0, 65535, 65536},
		{"above In", 5, 1, 65535}, {"above In", 5, 1, 65536}, {"above In", 5, 1, 65537}, {"above In", 5, 1, 1<<32 + 1}, {"above In", 5, 0, 1 << 56}, {"above In", 5, 0, 1 << 62}, {"the greatest", 5, 3, math.MaxInt}, {"the greatest", mostCame, mostIn, math.MaxInt}, {"the greatest", 0, 0, math.MaxInt},
		{"below 0", 0, 0, -1}, {"below 0", 5, 3, -1}, {"below 0", 5, 3, -3}, {"below 0", 5, 3, -65535}, {"below 0", 5, 3, -65536}, {"below 0", 5, 65535, -1}, {"below 0", mostCame, mostIn, -1}, {"far below 0", 5, 3, -1 << 32}, {"the least", 5, 3, math.MinInt}, {"the least", 0, 0, math.MinInt}, {"nearly the least", 5, 3, math.MinInt + 1}, {"nearly the least", 5, 3, math.MinInt + 3},
	} {
		w, _ := Pack(c.came, c.in)
		for _, top := range []uint64{0, 1, 128, 255} {
			if left, is := Leave(w|top<<56, c.n); left != 0 || is {
				t.Errorf("%s: %d and %d, %d less: %#x (%v)", c.what, c.came, c.in, c.n, left, is)
			}
		}
	}
}

// The eight greatest digits are 0 in what is told, whatever they were, also where nobody leaves by n of 0.
func TestLeaveOfAnyTop(t *testing.T) {
	for top := range uint64(256) {
		for _, low := range []uint64{0, 65536, 3, 65539, 65535, 0x00ffffffffff0000, 0x00ffffffffff0003, 0x00ffffffffffffff} {
			for _, n := range []uint64{0, low & 1, low & 2, low & 65535} {
				if left, is := Leave(top<<56|low, int(n)); left != low-n || !is {
					t.Errorf("%#x, %d less: %#x (%v), and not %#x", top<<56|low, n, left, is, low-n)
				}
			}
		}
	}
}

// Each In with a few of n about it.
func TestLeaveOfEachIn(t *testing.T) {
	for in := range 65536 {
		for _, came := range []int{0, 7, mostCame} {
			w := 0xa5<<56 | uint64(came)*65536 + uint64(in)
			for _, n := range []int{-1, 0, 1, in / 2, in - 1, in, in + 1} {
				want := told{}
				if n >= 0 && n <= in {
					want = told{uint64(came)*65536 + uint64(in-n), true}
				}
				if left, is := Leave(w, n); (told{left, is}) != want {
					t.Fatalf("%d and %d, %d less: %#x (%v), and not %v", came, in, n, left, is, want)
				}
			}
		}
	}
}

func TestLeaveOfAny(t *testing.T) {
	r := rand.New(rand.NewSource(204))
	some := someCounts(r)
	for _, w := range someWords(r) {
		_, in := counted(w)
		for _, n := range append([]int{in - 1, in, in + 1, in / 2, -in}, some...) {
			left, is := Leave(w, n)
			if want := leave(w, n); (told{left, is}) != want {
				t.Fatalf("%#x, %d less: %#x (%v), and not %v", w, n, left, is, want)
			}
		}
	}
}

// P20.3: room

// All rows of seven calls, each an Enter, or a Leave of -1, 0, 1, 2 or 3.
func TestRoomOfAllRows(t *testing.T) {
	for most := -1; most <= 3; most++ {
		allRows(t, plain{}, 0, most, 7)
	}
}

// allRows goes on from both counts, and the word that has them, by each call that may come next.
func allRows(t *testing.T, p plain, w uint64, most, more int) {
	t.Helper()
	if more == 0 {
		return
	}
	let := p
	to := let.enters(t, w, most)
	allRows(t, let, to, most, more-1)
	for n := -1; n <= 3; n++ {
		left := p
		to = left.leaves(t, w, n)
		allRows(t, left, to, most, more-1)
	}
}

// Long rows, with room for few and for many, till In is the greatest too.
func TestRoomOfLongRows(t *testing.T) {
	r := rand.New(rand.NewSource(205))
	for _, most := range []int{0, 1, 2, 3, 32, 100, 65534, 65535, 65536, math.MaxInt} {
		for _, few := range []int{1, 2, 10, 20000} {
			p, w := plain{}, uint64(0)
			for range 30000 {
				if r.Intn(few) > 0 || few == 1 && r.Intn(2) == 0 {
					w = p.enters(t, w, most)
					continue
				}
				n := r.Intn(5) - 1
				if r.Intn(4) == 0 {
					n = r.Intn(p.in+3) - 1
				}
				w = p.leaves(t, w, n)
			}
		}
	}
}

// From nobody up to as many as may be in, and back to nobody.
func TestRoomOfAll(t *testing.T) {
	for _, most := range []int{mostIn - 1, mostIn, mostIn + 1, math.MaxInt} {
		p, w := plain{}, uint64(0)
		for range mostIn + 2 {
			w = p.enters(t, w, most)
		}
		if all := min(most, mostIn); p.in != all || p.came != all {
			t.Fatalf("most %d: %v", most, p)
		}
		w = p.leaves(t, w, p.in+1)
		w = p.leaves(t, w, p.in-1)
		w = p.leaves(t, w, 2)
		w = p.leaves(t, w, 1)
		checkCounts(t, p.leaves(t, w, 1), min(most, mostIn), 0)
	}
}

// With most of another call In may be above it; nobody is let in by that then.
func TestRoomOfOtherMosts(t *testing.T) {
	r := rand.New(rand.NewSource(206))
	for range 2000 {
		p, w := plain{}, uint64(0)
		for range 60 {
			if r.Intn(3) > 0 {
				w = p.enters(t, w, r.Intn(12)-2)
				continue
			}
			w = p.leaves(t, w, r.Intn(8)-2)
		}
	}
}

// Came goes up to the greatest, and stays there.
func TestRoomOfTheLast(t *testing.T) {
	w, is := Pack(mostCame-3, 0)
	if !is {
		t.Fatal("no word")
	}
	p := plain{came: mostCame - 3}
	for range 10 {
		w = p.enters(t, w, 2)
		w = p.leaves(t, w, 1)
	}
	if p.came != mostCame || p.in != 0 {
		t.Fatal(p)
	}
	checkCounts(t, w, mostCame, 0)
}
