package fail

import (
	"errors"
	"fmt"
	"math"
	"slices"
	"strings"
	"testing"

	"philtre/api"
)

type row struct {
	code api.Code
	err  error
	text string
}

func rows() []row {
	return []row{
		{1, api.ErrForm, "form"}, {2, api.ErrShort, "short"}, {3, api.ErrLong, "long"},
		{4, api.ErrRange, "range"}, {5, api.ErrKind, "kind"}, {6, api.ErrTwice, "twice"},
		{7, api.ErrFull, "full"}, {8, api.ErrBadOp, "bad op"}, {9, api.ErrBadBatch, "bad batch"},
		{10, api.ErrStaleBatch, "stale batch"}, {11, api.ErrTooManyReaders, "too many readers"},
		{12, api.ErrNoWatcher, "no watcher"}, {13, api.ErrTooManyWatchers, "too many watchers"},
		{14, api.ErrOverflow, "overflow"}, {15, api.ErrScript, "script"}, {16, api.ErrNone, "none"},
		{17, api.ErrFreed, "freed"}, {18, api.ErrBounds, "bounds"}, {99, api.ErrUnknown, "unknown"},
	}
}

func unknownCodes() []api.Code {
	l := []api.Code{math.MinInt, math.MinInt32, -100, -99, -18, -2, -1, 100, 101, 255, 256, 257, 1<<32 + 1, math.MaxInt32, math.MaxInt - 1, math.MaxInt}
	for c := api.Code(19); c < 99; c++ {
		l = append(l, c)
	}
	return l
}

func somePlaces() []int {
	return []int{0, 1, -1, 7, -10, 100, math.MaxInt32 + 1, math.MinInt, math.MaxInt}
}

// bare is an error of somebody else's, that can't be compared, with a text of its own.
type bare struct{ words []string }

func (b bare) Error() string { return strings.Join(b.words, " ") }

// claims says by its method that it is another error.
type claims struct{ is error }

func (c claims) Error() string        { return "claims" }
func (c claims) Is(target error) bool { return target == c.is }

// liar says that it is whatever it is asked for, but hands nothing out.
type liar struct{}

func (liar) Error() string { return "liar" }
func (liar) As(any) bool   { return true }

// rude panics at all that it may be asked.
type rude struct{ at string }

func (r rude) Error() string   { return r.check("error") }
func (r rude) Is(error) bool   { return r.check("is") == "never" }
func (r rude) As(any) bool     { return r.check("as") == "never" }
func (r rude) Unwrap() []error { r.check("unwrap"); return nil }
func (r rude) check(what string) string {
	if strings.Contains(r.at, what) {
		panic(what)
	}
	return "rude"
}

// hollow panics in Error when its pointer is nil.
type hollow struct{ text string }

func (h *hollow) Error() string { return h.text }

// P1.1

func TestKnown(t *testing.T) {
	if !Known(api.OK) {
		t.Error("OK is not known")
	}
	for _, r := range rows() {
		if !Known(r.code) {
			t.Error(r.code, "is not known")
		}
	}
	for _, c := range unknownCodes() {
		if Known(c) {
			t.Error(c, "is known")
		}
	}
}

func TestNew(t *testing.T) {
	if err := New(api.OK); err != nil {
		t.Error("of OK:", err)
	}
	for _, r := range rows() {
		if err := New(r.code); err != r.err {
			t.Error(r.code, err)
		}
	}
	for _, c := range unknownCodes() {
		if err := New(c); err != api.ErrUnknown {
			t.Error(c, err)
		}
	}
}

func TestAtOfNil(t *testing.T) {
	for _, p := range somePlaces() {
		if err := At(p, nil); err != nil {
			t.Error(p, err)
		}
		if err := At(p, At(3, New(api.OK))); err != nil {
			t.Error(p, err)
		}
	}
}

func TestAtWraps(t *testing.T) {
	within := []error{errors.New("form"), At(4, api.ErrLong), (*hollow)(nil), liar{}, claims{api.ErrKind}}
	for _, r := range rows() {
		within = append(within, r.err)
	}
	for _, p := range somePlaces() {
		for _, e := range within {
			err := At(p, e)
			if err == nil || err == e {
				t.Fatal(p, "is not wrapped")
			}
			if errors.Unwrap(err) != e {
				t.Error(p, "wraps another one")
			}
			if l := Places(err); len(l) == 0 || l[0] != p {
				t.Error(p, l)
			}
		}
	}
	if e, ok := errors.Unwrap(At(0, bare{[]string{"a"}})).(bare); !ok || e.words[0] != "a" {
		t.Error("an error that can't be compared is not within")
	}
}

// P1.2

func TestCode(t *testing.T) {
	if c := Code(nil); c != api.OK {
		t.Error("of nil:", c)
	}
	for _, r := range rows() {
		for _, err := range []error{
			r.err,
			At(-3, r.err),
			At(1, At(2, At(3, r.err))),
			fmt.Errorf("outside: %w", r.err),
			At(1, fmt.Errorf("between: %w", At(2, r.err))),
			errors.Join(errors.New("beside"), At(8, r.err)),
			claims{r.err},
			At(5, claims{r.err}),
		} {
			if c := Code(err); c != r.code {
				t.Error(r.code, err, c)
			}
		}
	}
}

func TestCodeOfOthers(t *testing.T) {
	for _, r := range rows() {
		for _, err := range []error{errors.New(r.text), At(int(r.code), errors.New(r.text)), fmt.Errorf("%v", r.err)} {
			if c := Code(err); c != api.Unknown {
				t.Error(err, c)
			}
		}
	}
	for _, err := range []error{bare{}, (*hollow)(nil), liar{}, rude{"error is as unwrap"}, At(1, rude{"is"}), errors.Join(nil, bare{})} {
		if c := Code(err); c != api.Unknown {
			t.Errorf("%T %d", err, c)
		}
	}
}

func TestPlaces(t *testing.T) {
	other := errors.New("at 3: form")
	for _, c := range []struct {
		err  error
		want []int
	}{
		{nil, nil},
		{api.ErrForm, nil},
		{other, nil},
		{fmt.Errorf("outside: %w", api.ErrForm), nil},
		{At(0, api.ErrForm), []int{0}},
		{At(3, At(-4, api.ErrForm)), []int{3, -4}},
		{At(5, At(5, At(5, other))), []int{5, 5, 5}},
		{At(math.MinInt, At(math.MaxInt, api.ErrShort)), []int{math.MinInt, math.MaxInt}},
		{fmt.Errorf("outside: %w", At(4, api.ErrForm)), []int{4}},
		{At(3, fmt.Errorf("between: %w", At(4, other))), []int{3, 4}},
		{liar{}, nil},
		{At(1, At(2, liar{})), []int{1, 2}},
		{At(6, rude{"as"}), []int{6}},
		{At(6, rude{"unwrap"}), []int{6}},
	} {
		if got := Places(c.err); !slices.Equal(got, c.want) {
			t.Errorf("%T: %v, not %v", c.err, got, c.want)
		}
	}
}

func TestPlacesAreNew(t *testing.T) {
	err := At(1, At(2, api.ErrForm))
	Places(err)[0] = 9
	if got := Places(err); !slices.Equal(got, []int{1, 2}) {
		t.Error(got)
	}
}

func TestText(t *testing.T) {
	if s := Text(nil); s != "" {
		t.Errorf("of nil: %q", s)
	}
	for _, r := range rows() {
		if s := Text(r.err); s != r.text {
			t.Errorf("%d: %q", r.code, s)
		}
		if s, want := Text(At(int(r.code), New(r.code))), fmt.Sprintf("at %d: %s", int(r.code), r.text); s != want {
			t.Errorf("%q, not %q", s, want)
		}
	}
	for _, c := range []struct {
		err  error
		want string
	}{
		{At(3, At(-4, New(api.Form))), "at 3: at -4: form"},
		{At(0, api.ErrBadOp), "at 0: bad op"},
		{At(math.MinInt, At(math.MaxInt, api.ErrNone)), "at -9223372036854775808: at 9223372036854775807: none"},
		{errors.New(""), ""},
		{At(1, errors.New("")), "at 1: "},
		{At(2, bare{[]string{"two", "words"}}), "at 2: two words"},
		{At(1, fmt.Errorf("outside: %w", api.ErrForm)), "at 1: outside: form"},
		{fmt.Errorf("outside: %w", api.ErrForm), "outside: form"},
		{fmt.Errorf("outside: %w", At(4, api.ErrForm)), "at 4: form"},
		{At(3, fmt.Errorf("between: %w", At(4, api.ErrForm))), "at 3: at 4: form"},
		{liar{}, "liar"},
		{At(7, liar{}), "at 7: liar"},
		{At(7, (*hollow)(nil)), "at 7: "},
		{rude{"error"}, ""},
		{At(7, rude{"is as unwrap"}), "at 7: rude"},
	} {
		if s := Text(c.err); s != c.want {
			t.Errorf("%T: %q, not %q", c.err, s, c.want)
		}
	}
}

func TestErrorIsText(t *testing.T) {
	for _, err := range []error{At(3, At(-4, api.ErrForm)), At(0, errors.New("x")), At(7, rude{"error"})} {
		if err.Error() != Text(err) {
			t.Errorf("%q, not %q", err.Error(), Text(err))
		}
	}
}

// P1.3

func TestBack(t *testing.T) {
	for _, c := range unknownCodes() {
		if got := Code(New(c)); got != api.Unknown {
			t.Error(c, got)
		}
	}
	for c := api.Code(-200); c <= 200; c++ {
		if !Known(c) {
			continue
		}
		err := New(c)
		for n := range 20 {
			if got := Code(err); got != c {
				t.Error(c, n, got)
			}
			err = At(n-10, err)
		}
	}
}

func TestUnlike(t *testing.T) {
	l := append(rows(), row{code: api.OK})
	for _, a := range l {
		for _, b := range l {
			one, other := New(a.code), New(b.code)
			if (one == other) != (a.code == b.code) {
				t.Error(a.code, b.code)
			}
			if other != nil && errors.Is(At(1, one), other) != (a.code == b.code) {
				t.Error(a.code, b.code, "wrapped")
			}
		}
	}
}

// As deep as the document's bound allows.
func TestDeep(t *testing.T) {
	const depth = 1 << 16
	err := New(api.Bounds)
	var want strings.Builder
	for i := range depth {
		err = At(i, err)
		fmt.Fprintf(&want, "at %d: ", depth-1-i)
	}
	want.WriteString("bounds")
	if c := Code(err); c != api.Bounds {
		t.Error(c)
	}
	l := Places(err)
	if len(l) != depth {
		t.Fatal(len(l))
	}
	for i, p := range l {
		if p != depth-1-i {
			t.Fatal(i, p)
		}
	}
	if Text(err) != want.String() || err.Error() != want.String() {
		t.Error("text")
	}
}
