// Package fail has an error for each code, and wraps errors with the places at which they came up.
package fail

import (
	"errors"
	"strconv"
	"strings"

	"philtre/api"
)

// placed is an error at a place. It is handed out by its pointer alone: two of them held against each other as structs would panic where what is within can't be compared.
type placed struct {
	place  int
	within error
}

func (p *placed) Error() string { return Text(p) }
func (p *placed) Unwrap() error { return p.within }

// New is the error of a code: nil of OK, and api's ErrUnknown of a code that is not known.
func New(c api.Code) error {
	switch c {
	case api.OK:
		return nil
	case api.Form:
		return api.ErrForm
	case api.Short:
		return api.ErrShort
	case api.Long:
		return api.ErrLong
	case api.Range:
		return api.ErrRange
	case api.Kind:
		return api.ErrKind
	case api.Twice:
		return api.ErrTwice
	case api.Full:
		return api.ErrFull
	case api.BadOp:
		return api.ErrBadOp
	case api.BadBatch:
		return api.ErrBadBatch
	case api.StaleBatch:
		return api.ErrStaleBatch
	case api.TooManyReaders:
		return api.ErrTooManyReaders
	case api.NoWatcher:
		return api.ErrNoWatcher
	case api.TooManyWatchers:
		return api.ErrTooManyWatchers
	case api.Overflow:
		return api.ErrOverflow
	case api.Script:
		return api.ErrScript
	case api.None:
		return api.ErrNone
	case api.Freed:
		return api.ErrFreed
	case api.Bounds:
		return api.ErrBounds
	case api.Unknown:
		fallthrough
	default:
		return api.ErrUnknown
	}
}

// Known says whether api has a constant of the code.
func Known(c api.Code) bool {
	return c >= api.OK && c <= api.Bounds || c == api.Unknown
}

// At wraps err with a place; nil stays nil.
func At(place int, err error) error {
	if err == nil {
		return nil
	}
	return &placed{place, err}
}

// Code is the code of the api's error that err is or wraps.
func Code(err error) (code api.Code) {
	if err == nil {
		return api.OK
	}
	// An error of somebody else's may panic when it is asked: it is none of api's then.
	defer func() {
		if recover() != nil {
			code = api.Unknown
		}
	}()
	for c := api.Form; c <= api.Bounds; c++ {
		if errors.Is(err, New(c)) {
			return c
		}
	}
	return api.Unknown
}

// Places are the places at which err was wrapped, the outermost first.
func Places(err error) []int {
	places, _ := peel(err)
	return places
}

// Text is err's places, the outermost first, and the text of the error within them.
func Text(err error) string {
	if err == nil {
		return ""
	}
	places, within := peel(err)
	var b strings.Builder
	for _, place := range places {
		b.WriteString("at ")
		b.WriteString(strconv.Itoa(place))
		b.WriteString(": ")
	}
	b.WriteString(ownText(within))
	return b.String()
}

// peel tells the places around an error, the outermost first, and what is within all of them.
func peel(err error) ([]int, error) {
	var places []int
	for p := outermost(err); p != nil; p = outermost(err) {
		places = append(places, p.place)
		err = p.within
	}
	return places, err
}

// outermost finds the first place around err; nil, if there is none, or if an error of somebody else's panics when it is asked.
func outermost(err error) (p *placed) {
	defer func() {
		if recover() != nil {
			p = nil
		}
	}()
	if !errors.As(err, &p) {
		return nil
	}
	return p
}

// ownText is what an error itself says; nothing, if it panics when it is asked.
func ownText(err error) (text string) {
	defer func() {
		if recover() != nil {
			text = ""
		}
	}()
	return err.Error()
}
