package ssz

const (
	chunkSize  = 32
	numberSize = 8
	zeroChunk  = "\x00\x00\x00\x00\x00\x00\x00\x00\x00\x00\x00\x00\x00\x00\x00\x00\x00\x00\x00\x00\x00\x00\x00\x00\x00\x00\x00\x00\x00\x00\x00\x00"
)

func isChunk(s string) bool { return len(s) == chunkSize }

// Pack cuts s into chunks.
func Pack(s string) []string {
	text := []byte(s)
	chunks := make([]string, 0, (len(text)+chunkSize-1)/chunkSize)
	for from := 0; from < len(text); from += chunkSize {
		to := min(from+chunkSize, len(text))
		chunks = append(chunks, filledUp(text[from:to:to]))
	}
	return chunks
}

// filledUp is the chunk that a cut of at most as many bytes begins. The cut has no room behind it, so that what fills it up never lands in the text that it is of.
func filledUp(cut []byte) string {
	return string(append(cut, zeroChunk[len(cut):]...))
}

// Number is the chunk of n, the lowest byte first.
func Number(n uint64) string {
	var chunk [chunkSize]byte
	for i := range numberSize {
		chunk[i] = byte(n >> (8 * i))
	}
	return string(chunk[:])
}
