// Package text is layer 1: see shared/doc/01-text.md.
package text

import "bramble/api"

// PointAt is the place of a byte as a point.
func PointAt(s string, at int) (api.Point, api.Errno) {
	p, err := api.Point{}, api.ErrPlace
	if at < 0 || at > len(s) {
		return p, err
	}
search:
	for n, r := range rows(s) {
		if at <= r.to {
			p, err = api.Point{Row: n, Col: at - r.from}, api.OK
			break search
		}
	}
	return p, err
}

// Offset is the byte of a point.
func Offset(s string, p api.Point) (int, api.Errno) {
	at, err := 0, api.ErrPlace
	if p.Row < 0 || p.Col < 0 {
		return at, err
	}
search:
	for n, r := range rows(s) {
		if n < p.Row {
			continue
		}
		if p.Col <= r.to-r.from {
			at, err = r.from+p.Col, api.OK
		}
		break search
	}
	return at, err
}

// Fit tells whether an edit can be made.
func Fit(s string, e api.Edit) api.Errno {
	// Held against differences: a sum of two very great numbers would wrap round.
	if e.At < 0 || e.Old < 0 || e.Old > len(s)-e.At {
		return api.ErrPlace
	}
	if len(e.Text) > api.MaxText-(len(s)-e.Old) {
		return api.ErrLong
	}
	return api.OK
}

// Apply makes an edit.
func Apply(s string, e api.Edit) (string, api.Errno) {
	if err := Fit(s, e); err != api.OK {
		return s, err
	}
	return s[:e.At] + e.Text + s[e.At+e.Old:], api.OK
}

// Undo is the edit that takes one back.
func Undo(s string, e api.Edit) (api.Edit, api.Errno) {
	if err := Fit(s, e); err != api.OK {
		return api.Edit{}, err
	}
	return api.Edit{At: e.At, Old: len(e.Text), Text: s[e.At : e.At+e.Old]}, api.OK
}

// Map is where a byte of the text ahead lies behind an edit; false: it was taken out.
func Map(e api.Edit, at int) (int, bool) {
	switch {
	case e.At < 0 || e.Old < 0:
		return 0, false
	case at < e.At:
		return at, true
	case at-e.At < e.Old: // At and Old may be so great that their sum would wrap round
		return 0, false
	}
	return at - e.Old + len(e.Text), true
}

// All makes edits, one after another.
func All(s string, l []api.Edit) (string, api.Errno) {
	behind := s
	for _, e := range l {
		next, err := Apply(behind, e)
		if err != api.OK {
			return s, err
		}
		behind = next
	}
	return behind, api.OK
}

// Diff is a least edit that makes one text another one.
func Diff(a, b string) api.Edit {
	at := alikeAhead(a, b)
	// Cut first, so that no byte counts as alike at both ends.
	a, b = a[at:], b[at:]
	end := alikeBehind(a, b)
	return api.Edit{At: at, Old: len(a) - end, Text: b[:len(b)-end]}
}

// alikeAhead is how many bytes two texts have alike at their beginning.
func alikeAhead(a, b string) int {
	n := 0
	for n < len(a) && n < len(b) && a[n] == b[n] {
		n++
	}
	return n
}

// alikeBehind is how many bytes two texts have alike at their end.
func alikeBehind(a, b string) int {
	n := 0
	for n < len(a) && n < len(b) && a[len(a)-1-n] == b[len(b)-1-n] {
		n++
	}
	return n
}
