package stir

import (
	"math"
	"math/big"
	"math/rand"
	"slices"
	"strings"
	"testing"
)

// someNumbers are the ends of the range, numbers beside each power of two, and others in between.
func someNumbers() []uint64 {
	l := []uint64{0, 1, 2, 3, 5, 255, 256, 257, 1099511628211, 14695981039346656037, math.MaxUint64 - 255, math.MaxUint64 - 1, math.MaxUint64}
	for i := range 64 {
		l = append(l, 1<<i-1, 1<<i, 1<<i+1)
	}
	r := rand.New(rand.NewSource(51))
	for range 300 {
		l = append(l, r.Uint64())
	}
	return l
}

// someWidths are those below 1 too.
func someWidths() []int {
	l := []int{math.MinInt, math.MinInt + 1, math.MinInt32, -64, -3, -1, 0, 1, 2, 3, 4, 5, 7, 8, 10, 63, 64, 65, 100, 1000, 65536, 99991, math.MaxInt32, 1 << 40, math.MaxInt/2 + 1, math.MaxInt - 2, math.MaxInt - 1, math.MaxInt}
	r := rand.New(rand.NewSource(52))
	for range 40 {
		l = append(l, 1+r.Intn(math.MaxInt-1))
	}
	return l
}

func someTexts() []string {
	every := make([]byte, 256)
	for i := range every {
		every[i] = byte(i)
	}
	l := []string{"", "a", "key", "\x00", "\x00\x00", "\xff", "\xff\x00\xff", "\u00e4\u20ac\U0001f600", "\xc3", "a\xa4", string(every), strings.Repeat("\xff", 5000), strings.Repeat("xy\u20ac", 3000)}
	r := rand.New(rand.NewSource(53))
	for n := range 300 {
		b := make([]byte, n%40)
		for i := range b {
			b[i] = byte(r.Intn(256))
		}
		l = append(l, string(b))
	}
	return l
}

func bigOf(n uint64) *big.Int { return new(big.Int).SetUint64(n) }

// reckonMore tells a number with a byte more in numbers that have no end, cut off at 64 digits.
func reckonMore(n uint64, c byte) uint64 {
	product := bigOf(1099511628211)
	product.Mul(product, new(big.Int).Xor(bigOf(n), big.NewInt(int64(c))))
	product.Mod(product, new(big.Int).Lsh(big.NewInt(1), 64))
	lower := new(big.Int).Div(product, big.NewInt(536870912))
	return product.Xor(product, lower).Uint64()
}

func reckonSum(seed uint64, s string) uint64 {
	n := new(big.Int).Xor(bigOf(seed), bigOf(14695981039346656037)).Uint64()
	for _, c := range []byte(s) {
		n = reckonMore(n, c)
	}
	return n
}

func reckonStart(n uint64, width int) int {
	if width < 1 {
		return 0
	}
	return int(new(big.Int).Mod(bigOf(n), big.NewInt(int64(width))).Int64())
}

func reckonPlace(n uint64, width, i int) int {
	if i < 0 || i >= width {
		return -1
	}
	sum := new(big.Int).Add(big.NewInt(int64(reckonStart(n, width))), big.NewInt(int64(i)))
	return int(sum.Mod(sum, big.NewInt(int64(width))).Int64())
}

// taken are the first places of a way, at most so many, and how often it went on when it had been left.
func taken(n uint64, width, most int) (places []int, behind int) {
	left := false
	Way(n, width)(func(place int) bool {
		if left {
			behind++
			return false
		}
		places = append(places, place)
		left = len(places) >= most
		return !left
	})
	return places, behind
}

// P5.1

func TestMore(t *testing.T) {
	for _, c := range []struct {
		n    uint64
		c    byte
		want uint64
	}{
		{0, 0, 0}, {0, 1, 1099511630259}, {1, 0, 1099511630259}, {1, 1, 0}, {0, 255, 280375465494861}, {255, 255, 0}, {255, 0, 280375465494861}, {254, 255, 1099511630259},
		{math.MaxUint64, 0, 18446742939838187954}, {math.MaxUint64, 255, 18446462564373738239}, {math.MaxUint64, 1, 18446741840326562661}, {math.MaxUint64 - 255, 255, 18446742939838187954},
		{1 << 63, 0, 9223372054034644992}, {1<<63 - 1, 255, 9223090544698831615}, {1 << 24, 0, 7298088973}, {1 << 29, 7, 7930120254038}, {14695981039346656037, 'a', 12638187189669138152},
	} {
		if n := More(c.n, c.c); n != c.want {
			t.Errorf("%d with %d more: %d, not %d", c.n, c.c, n, c.want)
		}
	}
}

func TestMoreOfEachByte(t *testing.T) {
	for _, n := range someNumbers() {
		for c := range 256 {
			if got, want := More(n, byte(c)), reckonMore(n, byte(c)); got != want {
				t.Fatalf("%d with %d more: %d, not %d", n, c, got, want)
			}
		}
	}
}

func TestSum(t *testing.T) {
	const base = 14695981039346656037
	for _, c := range []struct {
		seed uint64
		s    string
		want uint64
	}{
		{0, "", base}, {base, "", 0}, {1, "", base - 1}, {math.MaxUint64, "", 3750763034362895578},
		{0, "a", 12638187189669138152}, {1, "a", 12638188289180763227}, {math.MaxUint64, "a", 5808555767252321370},
		{base, "\x00", 0}, {base, "\x00\x00\x00", 0}, {base, "\x01", 1099511630259},
		{0, "\x00", 12638153104808500667}, {0, "\xff", 12638352116413462794}, {math.MaxUint64, "\x00", 5808589852112604149}, {math.MaxUint64, "\xff", 5808390840508315460},
		{0, "ab", 2719571334230927798}, {0, "ba", 2720185961223853352}, {0, "\x00a", 2510896121030675622}, {0, "a\x00", 2719674688324737520},
		{0, "key", 17864978186620024237}, {7, "key", 3692377759805419042}, {42, "0123456789abcdef", 15840802029835071589},
		{0, "\u00e4", 2940755690934007902}, {0, "\xe4", 12638324628622674583}, {0, "\xff\xff\xff\xff", 7461731360127879945}, {0, "x\u20acy", 12882275150219793360},
	} {
		if n := Sum(c.seed, c.s); n != c.want {
			t.Errorf("of %d and %q: %d, not %d", c.seed, c.s, n, c.want)
		}
	}
}

func TestSumOfTexts(t *testing.T) {
	for i, s := range someTexts() {
		for _, seed := range []uint64{0, 1, math.MaxUint64, 1 << 63, 14695981039346656037, uint64(i) * 1e15} {
			if n, want := Sum(seed, s), reckonSum(seed, s); n != want {
				t.Fatalf("of %d and %.100q: %d, not %d", seed, s, n, want)
			}
		}
	}
}

func TestSumOfSeeds(t *testing.T) {
	for _, seed := range someNumbers() {
		for _, s := range []string{"", "a", "\x00", "\xff", "key"} {
			if n, want := Sum(seed, s), reckonSum(seed, s); n != want {
				t.Fatalf("of %d and %q: %d, not %d", seed, s, n, want)
			}
		}
	}
}

// The number of a text with one byte more is that of the text ahead with the byte more.
func TestSumGrows(t *testing.T) {
	for _, s := range someTexts() {
		for _, seed := range []uint64{0, 9, math.MaxUint64} {
			ahead := Sum(seed, s)
			for c := range 256 {
				if n, want := Sum(seed, s+string([]byte{byte(c)})), More(ahead, byte(c)); n != want {
					t.Fatalf("of %d, %.100q and %d: %d, not %d", seed, s, c, n, want)
				}
			}
		}
	}
}

// P5.2

func TestStart(t *testing.T) {
	for _, c := range []struct {
		n     uint64
		width int
		want  int
	}{
		{5, 3, 2}, {0, 3, 0}, {2, 3, 2}, {3, 3, 0}, {6, 3, 0}, {7, 3, 1}, {64, 64, 0}, {63, 64, 63}, {65, 64, 1}, {1000, 10, 0}, {1009, 10, 9},
		{0, 0, 0}, {5, 0, 0}, {math.MaxUint64, 0, 0}, {5, -1, 0}, {5, -3, 0}, {math.MaxUint64, -7, 0}, {1 << 63, math.MinInt, 0}, {7, math.MinInt, 0}, {math.MaxUint64, math.MinInt + 1, 0},
		{0, 1, 0}, {5, 1, 0}, {math.MaxUint64, 1, 0}, {1 << 63, 2, 0}, {1<<63 + 1, 2, 1}, {1 << 63, 3, 2}, {1 << 63, 7, 1}, {1 << 63, 10, 8}, {math.MaxUint64, 2, 1}, {math.MaxUint64, 3, 0}, {math.MaxUint64, 10, 5}, {math.MaxUint64, 64, 63},
		{0, math.MaxInt, 0}, {math.MaxInt - 1, math.MaxInt, math.MaxInt - 1}, {math.MaxInt, math.MaxInt, 0}, {1 << 63, math.MaxInt, 1}, {2 * math.MaxInt, math.MaxInt, 0}, {math.MaxUint64, math.MaxInt, 1}, {1 << 63, math.MaxInt - 1, 2}, {1<<63 - 2, math.MaxInt - 1, 0},
	} {
		if start := Start(c.n, c.width); start != c.want {
			t.Errorf("of %d at width %d: %d, not %d", c.n, c.width, start, c.want)
		}
	}
}

func TestStartOfAll(t *testing.T) {
	for _, n := range someNumbers() {
		for _, width := range someWidths() {
			if start, want := Start(n, width), reckonStart(n, width); start != want {
				t.Fatalf("of %d at width %d: %d, not %d", n, width, start, want)
			}
		}
	}
}

func TestPlace(t *testing.T) {
	for _, c := range []struct {
		n        uint64
		width, i int
		want     int
	}{
		{5, 3, 0, 2}, {5, 3, 1, 0}, {5, 3, 2, 1}, {5, 3, 3, -1}, {5, 3, -1, -1}, {5, 3, 4, -1}, {5, 3, 300, -1}, {5, 3, math.MaxInt, -1}, {5, 3, math.MinInt, -1}, {6, 3, 0, 0}, {6, 3, 2, 2}, {6, 3, 3, -1},
		{5, 1, 0, 0}, {5, 1, 1, -1}, {5, 1, -1, -1}, {math.MaxUint64, 1, 0, 0}, {math.MaxUint64, 1, math.MaxInt, -1},
		{5, 0, 0, -1}, {5, 0, 1, -1}, {5, 0, -1, -1}, {5, 0, math.MaxInt, -1}, {5, -1, 0, -1}, {5, -1, -1, -1}, {5, -1, -2, -1}, {5, -3, -4, -1}, {5, math.MinInt, math.MinInt, -1}, {5, math.MinInt, 0, -1}, {5, math.MinInt, math.MaxInt, -1},
		{1 << 63, 10, 0, 8}, {1 << 63, 10, 1, 9}, {1 << 63, 10, 2, 0}, {1 << 63, 10, 9, 7}, {math.MaxUint64, 64, 0, 63}, {math.MaxUint64, 64, 1, 0}, {math.MaxUint64, 64, 63, 62}, {math.MaxUint64, 64, 64, -1},
		{math.MaxInt - 1, math.MaxInt, 0, math.MaxInt - 1}, {math.MaxInt - 1, math.MaxInt, 1, 0}, {math.MaxInt - 1, math.MaxInt, math.MaxInt - 1, math.MaxInt - 2}, {math.MaxInt - 1, math.MaxInt, math.MaxInt, -1},
		{math.MaxInt, math.MaxInt, math.MaxInt - 1, math.MaxInt - 1}, {1, math.MaxInt, math.MaxInt - 1, 0}, {2, math.MaxInt, math.MaxInt - 1, 1}, {1 << 62, math.MaxInt, 1 << 62, 1}, {math.MaxUint64, math.MaxInt, math.MaxInt - 1, 0}, {0, math.MaxInt, math.MinInt, -1},
	} {
		if place := Place(c.n, c.width, c.i); place != c.want {
			t.Errorf("%d of %d at width %d: %d, not %d", c.i, c.n, c.width, place, c.want)
		}
	}
}

func TestPlaceOfAll(t *testing.T) {
	r := rand.New(rand.NewSource(54))
	for _, n := range someNumbers() {
		for _, width := range someWidths() {
			some := []int{math.MinInt, math.MinInt + 1, -2, -1, 0, 1, 2, 3, 64, math.MaxInt - 1, math.MaxInt}
			if width > 0 {
				some = append(some, width-1, width, width/2, r.Intn(width), r.Intn(width))
			}
			for _, i := range some {
				if place, want := Place(n, width, i), reckonPlace(n, width, i); place != want {
					t.Fatalf("%d of %d at width %d: %d, not %d", i, n, width, place, want)
				}
			}
		}
	}
}

func TestWay(t *testing.T) {
	for _, c := range []struct {
		n     uint64
		width int
		want  []int
	}{
		{5, 3, []int{2, 0, 1}}, {6, 3, []int{0, 1, 2}}, {7, 3, []int{1, 2, 0}}, {0, 1, []int{0}}, {math.MaxUint64, 1, []int{0}}, {0, 2, []int{0, 1}}, {1, 2, []int{1, 0}},
		{0, 0, nil}, {5, 0, nil}, {math.MaxUint64, 0, nil}, {5, -1, nil}, {5, -3, nil}, {math.MaxUint64, -64, nil}, {5, math.MinInt, nil}, {1 << 63, math.MinInt, nil},
		{1 << 63, 10, []int{8, 9, 0, 1, 2, 3, 4, 5, 6, 7}}, {math.MaxUint64, 10, []int{5, 6, 7, 8, 9, 0, 1, 2, 3, 4}}, {math.MaxUint64, 5, []int{0, 1, 2, 3, 4}},
	} {
		way := Way(c.n, c.width)
		if way == nil {
			t.Fatalf("of %d at width %d: nil", c.n, c.width)
		}
		if places := slices.Collect(way); !slices.Equal(places, c.want) {
			t.Errorf("of %d at width %d: %v, not %v", c.n, c.width, places, c.want)
		}
	}
}

// What is handed out is never nil, and gone over it comes by what Place tells, one place behind the other.
func TestWayIsItsPlaces(t *testing.T) {
	const most = 70
	for _, n := range someNumbers() {
		for _, width := range someWidths() {
			places, behind := taken(n, width, most)
			if behind != 0 || len(places) != max(0, min(width, most)) {
				t.Fatalf("of %d at width %d: %d places, and %d behind them", n, width, len(places), behind)
			}
			for i, place := range places {
				if want := Place(n, width, i); place != want {
					t.Fatalf("%d of %d at width %d: %d, not %d", i, n, width, place, want)
				}
			}
		}
	}
}

// A way may be left at each of its places, at the first and at the last one too.
func TestWayIsLeft(t *testing.T) {
	for width := 1; width <= 20; width++ {
		for n := range uint64(width) {
			whole := slices.Collect(Way(n, width))
			for most := 1; most <= width; most++ {
				places, behind := taken(n, width, most)
				if !slices.Equal(places, whole[:most]) || behind != 0 {
					t.Fatalf("of %d at width %d: %v of %v, and %d behind", n, width, places, whole, behind)
				}
			}
		}
	}
}

func TestWayTwice(t *testing.T) {
	for _, n := range []uint64{0, 5, 1 << 63, math.MaxUint64} {
		for _, width := range []int{-1, 0, 1, 2, 7, 64} {
			way := Way(n, width)
			for range way {
				break
			}
			one, other := slices.Collect(way), slices.Collect(way)
			if len(one) != max(0, width) || !slices.Equal(one, other) {
				t.Errorf("of %d at width %d: %v, and then %v", n, width, one, other)
			}
		}
	}
}

// Whoever goes over a way while somebody else does comes by all of it.
func TestWayWithinItself(t *testing.T) {
	const n, width = 12, 5
	way := Way(n, width)
	i := 0
	for outer := range way {
		if want := Place(n, width, i); outer != want {
			t.Errorf("%d: %d, not %d", i, outer, want)
		}
		if inner := slices.Collect(way); !slices.Equal(inner, []int{2, 3, 4, 0, 1}) {
			t.Errorf("within %d: %v", i, inner)
		}
		i++
	}
	if i != width {
		t.Error(i, "places")
	}
}

// A way of a great width costs no more than what is taken of it.
func TestGreatWay(t *testing.T) {
	for _, c := range []struct {
		n     uint64
		width int
		want  []int
	}{
		{math.MaxInt - 2, math.MaxInt, []int{math.MaxInt - 2, math.MaxInt - 1, 0, 1, 2}},
		{math.MaxInt - 1, math.MaxInt, []int{math.MaxInt - 1, 0, 1}},
		{math.MaxInt, math.MaxInt, []int{0, 1, 2}},
		{math.MaxUint64, math.MaxInt, []int{1, 2, 3}},
		{1 << 62, math.MaxInt, []int{1 << 62, 1<<62 + 1}},
		{math.MaxInt - 2, math.MaxInt - 1, []int{math.MaxInt - 2, 0, 1}},
	} {
		places, behind := taken(c.n, c.width, len(c.want))
		if !slices.Equal(places, c.want) || behind != 0 {
			t.Errorf("of %d at width %d: %v, and %d behind them", c.n, c.width, places, behind)
		}
	}
}

// P5.3

func checkRound(t *testing.T, n uint64, width int) {
	t.Helper()
	times := make([]int, width)
	i := 0
	for place := range Way(n, width) {
		if place < 0 || place >= width || place != Place(n, width, i) {
			t.Fatalf("%d of %d at width %d: %d", i, n, width, place)
		}
		times[place]++
		i++
	}
	for place, count := range times {
		if count != 1 {
			t.Fatalf("of %d at width %d: %d comes %d times", n, width, place, count)
		}
	}
}

func TestRound(t *testing.T) {
	for width := 1; width <= 130; width++ {
		for _, n := range someNumbers() {
			checkRound(t, n, width)
		}
	}
	for width := 1; width <= 40; width++ {
		for n := range uint64(2*width + 1) {
			checkRound(t, n, width)
			checkRound(t, math.MaxUint64-n, width)
		}
	}
	for _, n := range []uint64{0, 99990, 99991, 1 << 63, math.MaxUint64} {
		checkRound(t, n, 99991)
	}
}
