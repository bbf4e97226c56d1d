// Package wire is layer 1: see shared/doc/01-wire.md.
package wire

import "math/bits"

const (
	digitBits = 7
	more      = 1 << digitBits // stands in every digit but the last one
	maxDigits = 10             // as many digits of seven bits as 64 bits fill
)

// Put tells the only form of u: its digits, the least first.
func Put(u uint64) (told string) {
	var form []byte
	for u >= more {
		form = append(form, byte(u)|more)
		u >>= digitBits
	}
	return string(append(form, byte(u)))
}

// Get tells the number whose form stands in s at that place, and the place behind it.
func Get(s string, at int) (u uint64, next int, ok bool) {
	// Whether the digits are the only form of their number is known only when
	// all of them have been taken, so what is not is undone on the way out.
	defer func() {
		if !ok || Put(u) != s[at:next] {
			u, next, ok = 0, 0, false
		}
	}()
	if at < 0 || at >= len(s) {
		return
	}
	return takeDigits(s, at)
}

// takeDigits takes digits up to a last one. It takes longer forms than the only one, too,
// and loses the bits that 64 bits don't hold: Get finds both by putting the number again.
func takeDigits(s string, at int) (u uint64, next int, ok bool) {
	for i := range min(maxDigits, len(s)-at) {
		digit := s[at+i]
		u |= uint64(digit&^more) << (i * digitBits)
		if digit < more {
			return u, at + i + 1, true
		}
	}
	return 0, 0, false
}

// PutText tells the only form of t: its length, and its bytes.
func PutText(t string) (told string) {
	return Put(uint64(len(t))) + t
}

// GetText tells the text of at most that many bytes whose form stands in s at that place, and the place behind it.
func GetText(s string, at, most int) (t string, next int, ok bool) {
	size, from, ok := Get(s, at)
	// All are held against each other as numbers of 64 bits: a size may be past any int.
	if !ok || most < 0 || size > uint64(most) || size > uint64(len(s)-from) {
		return "", 0, false
	}
	next = from + int(size)
	return s[from:next], next, true
}

// Add tells a + b; false, if 64 bits don't hold it.
func Add(a, b uint64) (told uint64, also bool) {
	sum, carry := bits.Add64(a, b, 0)
	if carry != 0 {
		return 0, false
	}
	return sum, true
}

// Sub tells a - b; false, if it is below 0.
func Sub(a, b uint64) (told uint64, also bool) {
	if b > a {
		return 0, false
	}
	return a - b, true
}

// Mul tells a * b; false, if 64 bits don't hold it.
func Mul(a, b uint64) (told uint64, also bool) {
	high, low := bits.Mul64(a, b)
	if high != 0 {
		return 0, false
	}
	return low, true
}
