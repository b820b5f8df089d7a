package rlp

import "pharos/api"

const (
	textBase = 0x80 // from here on a head is a text's; bytes below it are texts themselves
	listBase = 0xc0 // from here on a head is a list's

	shortSizes = 56 // so many sizes a head's first byte tells by itself
)

// Encode is an item's bytes, or why it has none.
func Encode(x api.Item) (string, api.Errno) {
	switch {
	case isDeep(x):
		return "", api.ErrDeep
	case !isRight(x):
		return "", api.ErrArg
	}
	size := sizeOf(x)
	if size > api.MaxRlp {
		return "", api.ErrLong
	}
	// A list's head stands ahead of its items' bytes, so the order in which items are gone through is that of their bytes.
	bytes := make([]byte, 0, size)
	for _, item := range within(x) {
		bytes = append(bytes, headOf(item)...)
		bytes = append(bytes, item.Text...)
	}
	return string(bytes), api.OK
}

// isRight tells whether nothing in x is a text with a list, or a list with a text.
func isRight(x api.Item) bool {
	for _, item := range within(x) {
		if item.IsList && item.Text != "" || !item.IsList && len(item.List) > 0 {
			return false
		}
	}
	return true
}

// headOf is what stands ahead of an item's text, or of its items' bytes.
func headOf(x api.Item) string {
	switch {
	case x.IsList:
		return head(listBase, bodySize(x))
	case isBare(x.Text):
		return ""
	}
	return head(textBase, len(x.Text))
}

// isBare tells whether a text stands for itself, without a head.
func isBare(text string) bool {
	return len(text) == 1 && text[0] < textBase
}

func head(base, size int) string {
	if size < shortSizes {
		return string([]byte{byte(base + size)})
	}
	number := Number(uint64(size))
	return string([]byte{byte(base + shortSizes - 1 + len(number))}) + number
}

func sizeOf(x api.Item) int {
	if !x.IsList && isBare(x.Text) {
		return len(x.Text)
	}
	size := bodySize(x)
	return headSize(size) + size
}

// bodySize is how many bytes stand behind x's head.
func bodySize(x api.Item) int {
	size := len(x.Text)
	for _, inner := range x.List {
		size += sizeOf(inner)
	}
	return size
}

func headSize(size int) int {
	if size < shortSizes {
		return 1
	}
	return 1 + len(Number(uint64(size)))
}
