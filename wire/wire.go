// Package wire encodes integers and strings as bytes, decodes them, and computes checksums.
package wire

import (
	"iter"
	"strings"

	"royalty/api"
)

// maxGroups is how many groups of 7 bits the greatest folded integer has, which is less than 2^63.
const maxGroups = 9

// more marks a byte that another group follows.
const more = 128

// shifts says what 4 steps XOR into the register, for each value of the 4 bits that they shift out: two look-ups replace the eight steps of a byte.
var shifts = [16]uint32{
	0x00000000, 0x105ec76f, 0x20bd8ede, 0x30e349b1,
	0x417b1dbc, 0x5125dad3, 0x61c69362, 0x7198540d,
	0x82f63b78, 0x92a8fc17, 0xa24bb5a6, 0xb21572c9,
	0xc38d26c4, 0xd3d3e1ab, 0xe330a81a, 0xf36e6f75,
}

// PutInt returns the encoding of n, or ErrWire if n is not from -MaxInt to MaxInt.
func PutInt(n int) (string, api.Errno) {
	if !fits(n) {
		return "", api.ErrWire
	}
	var code [maxGroups]byte
	size := 0
	for b := range groups(fold(n)) {
		code[size] = b
		size++
	}
	return string(code[:size]), api.OK
}

// Int decodes the integer whose encoding begins at offset at of s, and returns it and the offset of the byte after the encoding.
func Int(s string, at int) (int, int, api.Errno) {
	if at < 0 || at > len(s) {
		return 0, 0, api.ErrArg
	}
	z := 0
	for i := range min(maxGroups, len(s)-at) {
		b := s[at+i]
		z |= int(b%more) << (7 * i)
		if b >= more {
			continue
		}
		n := unfold(z)
		superfluous := b == 0 && i > 0
		if superfluous || !fits(n) {
			break
		}
		return n, at + i + 1, api.OK
	}
	return 0, 0, api.ErrWire
}

// PutString returns the encoding of s, or ErrWire if s has more than MaxString bytes.
func PutString(s string) (string, api.Errno) {
	if len(s) > api.MaxString {
		return "", api.ErrWire
	}
	size, e := PutInt(len(s))
	return size + s, e
}

// String decodes the string whose encoding begins at offset at of s, and returns it and the offset of the byte after the encoding.
func String(s string, at int) (string, int, api.Errno) {
	size, begin, e := Int(s, at)
	if e != api.OK {
		return "", 0, e
	}
	if size < 0 || size > api.MaxString || size > len(s)-begin {
		return "", 0, api.ErrWire
	}
	end := begin + size
	// A result is new memory: a part of s would keep all of s from being freed.
	return strings.Clone(s[begin:end]), end, api.OK
}

// Sum returns the CRC-32C checksum of s.
func Sum(s string) int {
	register := ^uint32(0)
	for i := range len(s) {
		register ^= uint32(s[i])
		register = shift4(shift4(register))
	}
	return int(^register)
}

// shift4 does 4 steps of the register at once.
func shift4(register uint32) uint32 {
	return register>>4 ^ shifts[register%16]
}

func fits(n int) bool {
	return n >= -api.MaxInt && n <= api.MaxInt
}

// fold maps the integers that fit to those from 0 on, small ones to small ones.
func fold(n int) int {
	if n < 0 {
		return -2*n - 1
	}
	return 2 * n
}

// unfold is the inverse of fold. It halves z first, since z + 1 may overflow.
func unfold(z int) int {
	if z%2 == 1 {
		return -(z / 2) - 1
	}
	return z / 2
}

// groups yields the bytes of the encoding whose groups are those of z, which is not negative.
func groups(z int) iter.Seq[byte] {
	return func(yield func(byte) bool) {
		rest := z
		for rest >= more {
			if !yield(byte(rest%more) + more) {
				return
			}
			rest /= more
		}
		yield(byte(rest))
	}
}
