package nibs

import (
	"iter"
	"strings"

	"pharos/api"
)

// What a form's first half is the sum of.
const (
	oddMark  byte = 1
	leafMark byte = 2
)

// Form is the form of a path and of whether it is a leaf's, or that it is no path.
func Form(path string, leaf bool) (string, api.Errno) {
	var form strings.Builder
	form.Grow(len(path)/2 + 1)
	var higher byte
	isPath := true
writing:
	for at, half := range formHalves(path, leaf) {
		switch {
		case half > 0x0f:
			isPath = false
			break writing
		case at%2 == 0:
			higher = half
		default:
			form.WriteByte(higher<<4 | half)
		}
	}
	if !isPath {
		return "", api.ErrArg
	}
	return form.String(), api.OK
}

// formHalves goes through the halves of a form, and tells where each stands. A byte of the path that is no half is told as it is: who goes through sees it.
func formHalves(path string, leaf bool) iter.Seq2[int, byte] {
	return func(yield func(int, byte) bool) {
		at := 0
		for _, part := range [...]string{headOf(len(path), leaf), path} {
			for i := range len(part) {
				if !yield(at, part[i]) {
					return
				}
				at++
			}
		}
	}
}

// headOf is the halves that stand ahead of a path of that length: with them a form has whole bytes.
func headOf(length int, leaf bool) string {
	var first byte
	if leaf {
		first += leafMark
	}
	if length%2 == 0 {
		return string([]byte{first, 0})
	}
	return string([]byte{first + oddMark})
}

// Read is the path whose form s is, and whether it is a leaf's, or that there is none.
func Read(s string) (string, bool, api.Errno) {
	var path strings.Builder
	path.Grow(2 * len(s))
	var first byte
	isForm := s != ""
reading:
	for at, half := range halves(s) {
		// Behind an even first half stands one that only makes the bytes whole.
		isFiller := at == 1 && first&oddMark == 0
		switch {
		case at == 0 && half > leafMark+oddMark, isFiller && half != 0:
			isForm = false
			break reading
		case at == 0:
			first = half
		case !isFiller:
			path.WriteByte(half)
		}
	}
	if !isForm {
		return "", false, api.ErrNibs
	}
	return path.String(), first&leafMark != 0, api.OK
}
