// Package octet writes numbers and texts as bytes, each in one form, and reads them back.
package octet

import (
	"strings"

	"decretal/api"
)

// How numbers are cut into digits: a code's are of 7 bits, those of a number of fixed length of 8.
const (
	codeBits   = 7
	byteBits   = 8
	more       = 1 << codeBits // is added to each digit of a code but the last
	mostDigits = 10            // of the longest code
	mostBytes  = 8             // of the longest number of fixed length
)

// whole is a kind of number that has digits: a code goes up to 2^64 - 1, and so is no int.
type whole interface{ int | uint64 }

// digit tells the digit of n, of so many bits, at the place i (0 is the lowest).
func digit[N whole](n N, i, bits int) byte {
	return byte(uint64(n) >> (i * bits) & (1<<bits - 1))
}

// worth tells the number that has the digit d, of so many bits, at the place i, and zeros elsewhere.
func worth[N whole](d byte, i, bits int) N {
	return N(d) << (i * bits)
}

// code tells a number's code: the sign goes to the lowest bit, so that small numbers have few digits.
func code(n int) uint64 {
	c := uint64(n) << 1
	if n < 0 {
		return ^c
	}
	return c
}

// decode tells the number of a code.
func decode(c uint64) int {
	n := int(c >> 1)
	if c&1 != 0 {
		return ^n
	}
	return n
}

// Num tells a number's bytes.
func Num(n int) string {
	c := code(n)
	var b []byte
	for i := range mostDigits {
		d := digit(c, i, codeBits)
		if c>>(i*codeBits) < more {
			b = append(b, d)
			break
		}
		b = append(b, d|more)
	}
	return string(b)
}

// TakeNum takes a number off the front of s, and tells what stands behind it.
func TakeNum(s string) (int, string, api.Errno) {
	var c uint64
	for i := range mostDigits {
		if i == len(s) {
			return 0, "", api.ErrShort
		}
		b := s[i]
		c |= worth[uint64](b&^more, i, codeBits)
		if b >= more {
			continue
		}
		// A last digit 0 behind others would be a second form of a shorter code; and nine digits fill 63 bits, so that the tenth has room for one.
		if i > 0 && b == 0 || i == mostDigits-1 && b > 1 {
			return 0, "", api.ErrForm
		}
		return decode(c), s[i+1:], api.OK
	}
	return 0, "", api.ErrForm
}

// Text tells a text's bytes: its length's, and it.
func Text(s string) string {
	return Num(len(s)) + s
}

// takeCount takes a number from 0 to limit off the front of s: a length, or how many texts there are.
func takeCount(s string, limit int) (int, string, api.Errno) {
	n, rest, e := TakeNum(s)
	switch {
	case e != api.OK:
		return 0, "", e
	case n < 0:
		return 0, "", api.ErrForm
	case n > limit:
		return 0, "", api.ErrBig
	}
	return n, rest, api.OK
}

// TakeText takes a text of at most so many bytes off the front of s, and tells what stands behind it.
func TakeText(s string, most int) (string, string, api.Errno) {
	n, rest, e := takeCount(s, most)
	if e != api.OK {
		return "", "", e
	}
	if n > len(rest) {
		return "", "", api.ErrShort
	}
	return rest[:n], rest[n:], api.OK
}

// Texts tells a list's bytes: those of how many texts it has, and each text's.
func Texts(l []string) string {
	var b strings.Builder
	b.WriteString(Num(len(l)))
	for _, s := range l {
		b.WriteString(Num(len(s)))
		b.WriteString(s)
	}
	return b.String()
}

// TakeTexts takes a list of at most count texts, each of at most so many bytes, off the front of s, and tells what stands behind it.
func TakeTexts(s string, count, most int) ([]string, string, api.Errno) {
	n, rest, e := takeCount(s, count)
	if e != api.OK {
		return nil, "", e
	}
	// No room is made ahead: the number may promise far more texts than there are bytes.
	var l []string
	for range n {
		var one string
		if one, rest, e = TakeText(rest, most); e != api.OK {
			return nil, "", e
		}
		l = append(l, one)
	}
	return l, rest, api.OK
}

// Fixed tells the lowest so many bytes of n (at least none, at most eight), the highest first.
func Fixed(n, bytes int) string {
	count := min(max(bytes, 0), mostBytes)
	b := make([]byte, count)
	for i := range count {
		b[count-1-i] = digit(n, i, byteBits)
	}
	return string(b)
}

// Read tells the number of the first eight bytes of s (of all, if there are fewer), the highest first.
func Read(s string) int {
	count := min(len(s), mostBytes)
	n := 0
	for i := range count {
		n |= worth[int](s[count-1-i], i, byteBits)
	}
	return n
}
