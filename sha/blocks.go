package sha

import (
	"iter"
	"strings"
)

const (
	blockSize  = 64
	lengthSize = 8
	endMark    = "\x80"
)

// blockWords are the words that a block's own bytes give.
type blockWords [blockSize / 4]uint32

// blocks goes through the blocks of text. Only what the last whole block leaves over is copied, to be filled up.
func blocks(text string) iter.Seq[blockWords] {
	return func(yield func(blockWords) bool) {
		whole := len(text) - len(text)%blockSize
		if yieldAll(text[:whole], yield) {
			yieldAll(filledUp(text[whole:], len(text)), yield)
		}
	}
}

// yieldAll hands on each block of text, which is of whole blocks, and says whether more is wanted.
func yieldAll(text string, yield func(blockWords) bool) bool {
	for at := 0; at < len(text); at += blockSize {
		if !yield(wordsOf(text[at : at+blockSize])) {
			return false
		}
	}
	return true
}

// filledUp is the rest of a text of size bytes, with what follows it in its last blocks.
func filledUp(rest string, size int) string {
	zeros := blockSize - (len(rest)+len(endMark)+lengthSize)%blockSize
	return rest + endMark + strings.Repeat("\x00", zeros%blockSize) + lengthOf(size)
}

// lengthOf tells how many bits size bytes have.
func lengthOf(size int) string {
	count := uint64(size) * 8
	var text [lengthSize]byte
	for i := range text {
		text[i] = byte(count >> (56 - i*8))
	}
	return string(text[:])
}

func wordsOf(block string) blockWords {
	var words blockWords
	for i := range len(block) {
		words[i/4] = words[i/4]<<8 | uint32(block[i])
	}
	return words
}
