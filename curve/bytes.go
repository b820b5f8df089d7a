package curve

import (
	"pharos/api"
	"pharos/field"
)

// The first byte of a point's bytes, of which there are size.
const (
	ofInf  = 0
	ofEven = 2
	ofOdd  = 3
	size   = 5
)

// Bytes is a point of the group as bytes.
func Bytes(p api.Point) (string, api.Errno) {
	if !InGroup(p) {
		return "", api.ErrPoint
	}
	return string([]byte{first(p), byte(p.X >> 24), byte(p.X >> 16), byte(p.X >> 8), byte(p.X)}), api.OK
}

// From is the point of the group that s is the bytes of.
func From(s string) (api.Point, api.Errno) {
	if len(s) != size {
		return api.Point{}, api.ErrPoint
	}
	p := named(s)
	// Of a text that is no point's bytes some other point, or none, is named: going back tells.
	if back, e := Bytes(p); e != api.OK || back != s {
		return api.Point{}, api.ErrPoint
	}
	return p, api.OK
}

// first is the first byte of a point's bytes.
func first(p api.Point) byte {
	switch {
	case p == inf:
		return ofInf
	case p.Y%2 == 0:
		return ofEven
	default:
		return ofOdd
	}
}

// named is the only one that five bytes may be those of, if they are a point's.
func named(s string) api.Point {
	if s[0] == ofInf {
		return inf
	}
	p := api.Point{X: uint64(s[1])<<24 | uint64(s[2])<<16 | uint64(s[3])<<8 | uint64(s[4])}
	// Without a root Y is 0, and that is no point.
	p.Y, _ = field.Root(square(p.X))
	if s[0] == ofOdd {
		return negative(p)
	}
	return p
}
