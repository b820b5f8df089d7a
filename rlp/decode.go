package rlp

import (
	"iter"
	"strings"

	"pharos/api"
)

// kind is what bytes begin with.
type kind int

const (
	noItem kind = iota
	aText
	aList
)

// Decode is the item that bytes are, or why they are none.
func Decode(s string) (api.Item, api.Errno) {
	if len(s) > api.MaxRlp {
		return api.Item{}, api.ErrLong
	}
	items, ok := itemsOf(s)
	switch {
	case !ok || len(items) != 1:
		return api.Item{}, api.ErrRlp
	case isDeep(items[0]):
		// Too deep is told only of bytes that are an item's, so all of them were read first.
		return api.Item{}, api.ErrDeep
	}
	return items[0], api.OK
}

// itemsOf is the items whose bytes s are, one behind the other; false, if there are none.
func itemsOf(s string) ([]api.Item, bool) {
	var items []api.Item
	ok := true
reading:
	for what, body := range parts(s) {
		var item api.Item
		switch what {
		case aText:
			// A copy, so that a short text does not hold all of s.
			item.Text = strings.Clone(body)
		case aList:
			item.IsList = true
			if item.List, ok = itemsOf(body); !ok {
				break reading
			}
		default:
			ok = false
			break reading
		}
		items = append(items, item)
	}
	if !ok {
		return nil, false
	}
	return items, true
}

// parts goes through the items that stand one behind the other in s: of what kind each is, and what stands behind its head. Where no item begins it says so, and ends.
func parts(s string) iter.Seq2[kind, string] {
	return func(yield func(kind, string) bool) {
		rest := s
		for rest != "" {
			what, body, behind := cut(rest)
			if !yield(what, body) || what == noItem {
				return
			}
			rest = behind
		}
	}
}

// cut is the kind and the body of the item that s, which is not empty, begins with, and what stands behind it.
func cut(s string) (kind, string, string) {
	switch {
	case s[0] < textBase:
		return aText, s[:1], s[1:]
	case s[0] < listBase:
		body, behind, ok := cutBody(int(s[0])-textBase, s[1:])
		if !ok || isBare(body) {
			return noItem, "", ""
		}
		return aText, body, behind
	}
	body, behind, ok := cutBody(int(s[0])-listBase, s[1:])
	if !ok {
		return noItem, "", ""
	}
	return aList, body, behind
}

// cutBody cuts off s, which stands behind a head's first byte, the body and what stands behind it; told is what that byte tells, above its base.
func cutBody(told int, s string) (body, behind string, ok bool) {
	if told < shortSizes {
		if told > len(s) {
			return "", "", false
		}
		return s[:told], s[told:], true
	}
	digits := told - shortSizes + 1
	if digits > len(s) {
		return "", "", false
	}
	size, e := Value(s[:digits])
	s = s[digits:]
	// Held against each other as they are, without a sign: size may be any number of 64 bits.
	if e != api.OK || size < shortSizes || size > uint64(len(s)) {
		return "", "", false
	}
	return s[:size], s[size:], true
}
