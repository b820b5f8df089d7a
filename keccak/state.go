package keccak

import "math/bits"

const side = 5

// state are the lanes; A(x, y) of the chapter is lane x + 5 y.
type state [side * side]uint64

// mix does all rounds.
func mix(s *state) {
	for i := range rounds {
		joinColumns(s)
		moved := turnAndMove(s)
		joinRows(s, &moved)
		s[0] ^= constants[i]
	}
}

// joinColumns is a round's step 1.
func joinColumns(s *state) {
	var c [side]uint64
	for x := range side {
		c[x] = s[x] ^ s[x+side] ^ s[x+2*side] ^ s[x+3*side] ^ s[x+4*side]
	}
	for x := range side {
		d := c[(x+side-1)%side] ^ bits.RotateLeft64(c[(x+1)%side], 1)
		for row := range side {
			s[x+row*side] ^= d
		}
	}
}

// turnAndMove is a round's step 2: it answers B, and leaves s as it is.
func turnAndMove(s *state) state {
	var moved state
	for lane := range len(s) {
		moved[places[lane]] = bits.RotateLeft64(s[lane], turns[lane])
	}
	return moved
}

// joinRows is a round's step 3: it sets s from B. A row is written out, since remainders of 5 for each lane would cost a third of a digest's time.
func joinRows(s, b *state) {
	for y := range side {
		row := y * side
		b0, b1, b2, b3, b4 := b[row], b[row+1], b[row+2], b[row+3], b[row+4]
		s[row] = b0 ^ ^b1&b2
		s[row+1] = b1 ^ ^b2&b3
		s[row+2] = b2 ^ ^b3&b4
		s[row+3] = b3 ^ ^b4&b0
		s[row+4] = b4 ^ ^b0&b1
	}
}
