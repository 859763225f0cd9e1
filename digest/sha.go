package digest

import "royalty/api"

// blockSize is how many bytes are digested at a time.
const blockSize = 64

// rounds is how many steps a block takes.
const rounds = 64

// constants are the words k(0) to k(63) of the chapter.
var constants = [rounds]uint32{
	0x428a2f98, 0x71374491, 0xb5c0fbcf, 0xe9b5dba5, 0x3956c25b, 0x59f111f1, 0x923f82a4, 0xab1c5ed5,
	0xd807aa98, 0x12835b01, 0x243185be, 0x550c7dc3, 0x72be5d74, 0x80deb1fe, 0x9bdc06a7, 0xc19bf174,
	0xe49b69c1, 0xefbe4786, 0x0fc19dc6, 0x240ca1cc, 0x2de92c6f, 0x4a7484aa, 0x5cb0a9dc, 0x76f988da,
	0x983e5152, 0xa831c66d, 0xb00327c8, 0xbf597fc7, 0xc6e00bf3, 0xd5a79147, 0x06ca6351, 0x14292967,
	0x27b70a85, 0x2e1b2138, 0x4d2c6dfc, 0x53380d13, 0x650a7354, 0x766a0abb, 0x81c2c92e, 0x92722c85,
	0xa2bfe8a1, 0xa81a664b, 0xc24b8b70, 0xc76c51a3, 0xd192e819, 0xd6990624, 0xf40e3585, 0x106aa070,
	0x19a4c116, 0x1e376c08, 0x2748774c, 0x34b0bcb5, 0x391c0cb3, 0x4ed8aa4a, 0x5b9cca4f, 0x682e6ff3,
	0x748f82ee, 0x78a5636f, 0x84c87814, 0x8cc70208, 0x90befffa, 0xa4506ceb, 0xbef9a3f7, 0xc67178f2,
}

// sum returns the SHA-256 of the parts, one after the other. It joins them block by block, so that a long record is not copied as a whole.
func sum(parts ...string) string {
	words := [8]uint32{0x6a09e667, 0xbb67ae85, 0x3c6ef372, 0xa54ff53a, 0x510e527f, 0x9b05688c, 0x1f83d9ab, 0x5be0cd19}
	size := 0
	for _, part := range parts {
		size += len(part)
	}
	for block := range blocks(append(parts, padding(size))) {
		words = compress(words, block)
	}
	var digest [api.DigestSize]byte
	for i := range digest {
		digest[i] = byte(words[i/4] >> (24 - 8*(i%4)))
	}
	return string(digest[:])
}

// padding returns what extends a string of size bytes to whole blocks: the byte 128, zero bytes, and the number of the string's bits, the highest byte first.
func padding(size int) string {
	used := (size + 1 + 8) % blockSize
	code := make([]byte, 1+(blockSize-used)%blockSize+8)
	code[0] = 128
	bits := uint64(size) * 8
	for i := range 8 {
		code[len(code)-1-i] = byte(bits >> (8 * i))
	}
	return string(code)
}

// blocks yields the blocks of the parts, one after the other. What is left after the last whole block is not yielded.
func blocks(parts []string) func(yield func([blockSize]byte) bool) {
	return func(yield func([blockSize]byte) bool) {
		var block [blockSize]byte
		used := 0
	nextPart:
		for _, part := range parts {
			for {
				n := copy(block[used:], part)
				part = part[n:]
				used += n
				if used < blockSize {
					continue nextPart
				}
				if !yield(block) {
					return
				}
				used = 0
			}
		}
	}
}

// compress returns what the eight words become by a block.
func compress(words [8]uint32, block [blockSize]byte) [8]uint32 {
	w := schedule(block)
	a, b, c, d, e, f, g, h := words[0], words[1], words[2], words[3], words[4], words[5], words[6], words[7]
	for i := range rounds {
		t := h + (rotate(e, 6) ^ rotate(e, 11) ^ rotate(e, 25)) + (e&f ^ ^e&g) + constants[i] + w[i]
		u := (rotate(a, 2) ^ rotate(a, 13) ^ rotate(a, 22)) + (a&b ^ a&c ^ b&c)
		a, b, c, d, e, f, g, h = t+u, a, b, c, d+t, e, f, g
	}
	return [8]uint32{words[0] + a, words[1] + b, words[2] + c, words[3] + d, words[4] + e, words[5] + f, words[6] + g, words[7] + h}
}

// schedule returns the words w(0) to w(63) of a block.
func schedule(block [blockSize]byte) [rounds]uint32 {
	var w [rounds]uint32
	for i := range 16 {
		w[i] = uint32(block[4*i])<<24 | uint32(block[4*i+1])<<16 | uint32(block[4*i+2])<<8 | uint32(block[4*i+3])
	}
	for i := 16; i < rounds; i++ {
		x := rotate(w[i-15], 7) ^ rotate(w[i-15], 18) ^ w[i-15]>>3
		y := rotate(w[i-2], 17) ^ rotate(w[i-2], 19) ^ w[i-2]>>10
		w[i] = w[i-16] + x + w[i-7] + y
	}
	return w
}

// rotate returns the word, rotated right by n bits.
func rotate(word uint32, n int) uint32 {
	return word>>n | word<<(32-n)
}
