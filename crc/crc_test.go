package crc_test

import (
	"hash/crc32"
	"math"
	"slices"
	"strings"
	"testing"

	"decretal/crc"
)

// plain tells a text's CRC bit by bit, by the document's words, apart from the way that the package goes.
func plain(s string) int {
	c := 1<<32 - 1
	for _, b := range []byte(s) {
		c ^= int(b)
		for range 8 {
			half := c / 2
			if c%2 == 1 {
				half ^= 0x82F63B78
			}
			c = half
		}
	}
	return c ^ (1<<32 - 1)
}

// mixed tells so many bytes that look like nothing in particular, and are the same each time.
func mixed(seed uint32, length int) string {
	b := make([]byte, length)
	for i := range b {
		seed = seed*1664525 + 1013904223
		b[i] = byte(seed >> 24)
	}
	return string(b)
}

// texts tells texts of many lengths: each byte alone, all zeros, all ones, and mixed.
func texts() []string {
	l := []string{"", "123456789", strings.Repeat("\x00", 32), strings.Repeat("\xff", 32)}
	for b := range 256 {
		l = append(l, string([]byte{byte(b)}))
	}
	for n := range 40 {
		l = append(l, strings.Repeat("\x00", n), strings.Repeat("\xff", n), mixed(uint32(n), n))
	}
	return append(l, mixed(1, 480), mixed(2, 512), mixed(3, 9000))
}

// P2.1: the CRC of known texts.
func TestSumKnown(t *testing.T) {
	for s, want := range map[string]int{
		"":                         0,
		"a":                        0xC1D04330,
		"123456789":                0xE3069283,
		"\x00\x00\x00\x00":         0x48674BC7,
		strings.Repeat("\x00", 32): 0x8A9136AA,
		strings.Repeat("\xff", 32): 0x62A8AB43,
	} {
		if n := crc.Sum(s); n != want {
			t.Errorf("Sum(%q): %x, not %x", s, n, want)
		}
	}
	if n := crc.Sum(); n != 0 {
		t.Errorf("Sum(): %x", n)
	}
	if n := crc.Sum(nil...); n != 0 {
		t.Errorf("Sum of no list: %x", n)
	}
	if n := crc.Sum("", "", ""); n != 0 {
		t.Errorf("Sum of empty texts: %x", n)
	}
}

// P2.1: the CRC of each text is as the document's words and the library have it.
func TestSumPlain(t *testing.T) {
	castagnoli := crc32.MakeTable(crc32.Castagnoli)
	for _, s := range texts() {
		n := crc.Sum(s)
		if want := plain(s); n != want {
			t.Errorf("Sum of %d bytes: %x, not %x", len(s), n, want)
		}
		if want := int(crc32.Checksum([]byte(s), castagnoli)); n != want {
			t.Errorf("Sum of %d bytes: %x, not the library's %x", len(s), n, want)
		}
		if n < 0 || n > math.MaxUint32 {
			t.Errorf("Sum of %d bytes: %d, which is not of 32 bits", len(s), n)
		}
	}
}

// P2.1: the texts of a list stand one behind the other, and are not changed.
func TestSumList(t *testing.T) {
	l := []string{"cd", "", "ab", "\x00", "\xff\xff"}
	ahead := slices.Clone(l)
	if n, want := crc.Sum(l...), plain("cdab\x00\xff\xff"); n != want {
		t.Errorf("Sum(%q): %x, not %x", l, n, want)
	}
	if !slices.Equal(l, ahead) {
		t.Errorf("Sum has changed %q to %q", ahead, l)
	}
	if crc.Sum("ab", "cd") == crc.Sum("cd", "ab") {
		t.Error("Sum is the same in either order")
	}
}

// P2.1: More goes on behind any beginning, of which nothing but the CRC is known.
func TestMore(t *testing.T) {
	for _, s := range texts() {
		if n, want := crc.More(0, s), plain(s); n != want {
			t.Errorf("More(0, %d bytes): %x, not %x", len(s), n, want)
		}
		if n := crc.More(plain(s), ""); n != plain(s) {
			t.Errorf("More(%x, none): %x", plain(s), n)
		}
		if n, want := crc.More(plain("ahead"), s), plain("ahead"+s); n != want {
			t.Errorf("More(%x, %d bytes): %x, not %x", plain("ahead"), len(s), n, want)
		}
	}
}

// P2.1: of sum only the lowest 32 bits count.
func TestMoreLowest(t *testing.T) {
	low := plain("1234")
	for _, sum := range []int{low, low + 1<<32, low - 1<<32, low | math.MinInt, low + 0x7fffffff<<32} {
		for _, s := range []string{"", "5", "56789"} {
			if n, want := crc.More(sum, s), plain("1234"+s); n != want {
				t.Errorf("More(%x, %q): %x, not %x", sum, s, n, want)
			}
		}
	}
	for sum, want := range map[int]int{-1: math.MaxUint32, math.MaxInt: math.MaxUint32, math.MinInt: 0, 1 << 32: 0, -1 << 32: 0} {
		if n := crc.More(sum, ""); n != want {
			t.Errorf("More(%x, none): %x, not %x", sum, n, want)
		}
		if n, m := crc.More(sum, "xyz"), crc.More(want, "xyz"); n != m {
			t.Errorf("More(%x, xyz): %x, not %x", sum, n, m)
		}
	}
}

// P2.2: a sealed text is the text, and its CRC, the highest byte first.
func TestSeal(t *testing.T) {
	for s, want := range map[string]string{
		"":          "\x00\x00\x00\x00",
		"a":         "a\xc1\xd0\x43\x30",
		"123456789": "123456789\xe3\x06\x92\x83",
	} {
		if got := crc.Seal(s); got != want {
			t.Errorf("Seal(%q): %x, not %x", s, got, want)
		}
	}
	for _, s := range texts() {
		n := plain(s)
		want := s + string([]byte{byte(n >> 24), byte(n >> 16), byte(n >> 8), byte(n)})
		if got := crc.Seal(s); got != want {
			t.Errorf("Seal of %d bytes ends with %x, not %08x", len(s), got[len(got)-4:], n)
		}
	}
}

// P2.2: what was sealed is right, and what was not is not.
func TestRight(t *testing.T) {
	for _, s := range texts() {
		sealed := crc.Seal(s)
		if !crc.Right(sealed) {
			t.Errorf("Seal of %d bytes is not right", len(s))
		}
		if again := crc.Seal(sealed); !crc.Right(again) {
			t.Errorf("Seal of Seal of %d bytes is not right", len(s))
		}
	}
	for _, s := range []string{
		"", "\x00", "\x00\x00", "\x00\x00\x00", "abc", "abcd", "\x00\x00\x00\x01", "\x01\x00\x00\x00", "\xff\xff\xff\xff",
		"\x00\x00\x00\x00\x00", // five zeros: the CRC of one zero is another
		"a\x30\x43\xd0\xc1",    // the lowest byte first
		"23456789\xe3\x06\x92\x83", "123456789\xe3\x06\x92", "123456789\xe3\x06\x92\x83\x00", "\xe3\x06\x92\x83123456789",
		"a", strings.Repeat("\x00", 512), strings.Repeat("\xff", 512),
	} {
		if crc.Right(s) {
			t.Errorf("%x is right", s)
		}
	}
}

// P2.2: with a beginning given, of all last bytes one alone is right.
func TestRightOnlySeal(t *testing.T) {
	for _, s := range []string{"", "a", "\x00\x00\x00", mixed(7, 508)} {
		sealed := crc.Seal(s)
		for place := len(s); place < len(sealed); place++ {
			for b := range 256 {
				other := sealed[:place] + string([]byte{byte(b)}) + sealed[place+1:]
				if crc.Right(other) != (other == sealed) {
					t.Fatalf("Right of %d bytes, whose byte %d is %x: %v", len(other), place, b, crc.Right(other))
				}
			}
		}
	}
}

// P2.3: in whatever parts a text is summed its CRC is the same.
func TestParts(t *testing.T) {
	for _, s := range []string{"", "1", "123456789", mixed(11, 60), mixed(12, 512)} {
		want := plain(s)
		for i := range len(s) + 1 {
			if n := crc.Sum(s[:i], s[i:]); n != want {
				t.Fatalf("Sum of %d bytes, cut at %d: %x, not %x", len(s), i, n, want)
			}
			if n := crc.More(crc.Sum(s[:i]), s[i:]); n != want {
				t.Fatalf("More of %d bytes, cut at %d: %x, not %x", len(s), i, n, want)
			}
		}
		if n := crc.Sum(strings.Split(s, "")...); n != want {
			t.Errorf("Sum of %d bytes, one by one: %x, not %x", len(s), n, want)
		}
		n := 0
		for i := range len(s) {
			n = crc.More(n, s[i:i+1])
		}
		if n != want {
			t.Errorf("More of %d bytes, one by one: %x, not %x", len(s), n, want)
		}
	}
	s := mixed(13, 30)
	for i := range len(s) + 1 {
		for j := i; j <= len(s); j++ {
			if n, want := crc.Sum(s[:i], s[i:j], "", s[j:]), plain(s); n != want {
				t.Fatalf("Sum, cut at %d and %d: %x, not %x", i, j, n, want)
			}
		}
	}
}

// xored tells what comes of texts of one length byte by byte by xor.
func xored(a, b, c string) string {
	l := make([]byte, len(a))
	for i := range l {
		l[i] = a[i] ^ b[i] ^ c[i]
	}
	return string(l)
}

// P2.4: the CRC of three texts' xor is the xor of their CRCs.
func TestEven(t *testing.T) {
	for n := range 70 {
		a, b, c := mixed(uint32(3*n), n), mixed(uint32(3*n+1), n), mixed(uint32(3*n+2), n)
		zeros, ones := strings.Repeat("\x00", n), strings.Repeat("\xff", n)
		for _, l := range [][3]string{{a, b, c}, {a, a, b}, {a, b, zeros}, {a, ones, zeros}, {zeros, zeros, zeros}, {ones, ones, ones}} {
			got := crc.Sum(xored(l[0], l[1], l[2]))
			if want := crc.Sum(l[0]) ^ crc.Sum(l[1]) ^ crc.Sum(l[2]); got != want {
				t.Errorf("Sum of the xor of %x: %x, not %x", l, got, want)
			}
		}
	}
}

// P2.5: a sealed text of which one bit is turned is not right, in the text and in the CRC.
func TestOneBit(t *testing.T) {
	for _, s := range []string{"", "\x00", "a", "123456789", strings.Repeat("\x00", 64), strings.Repeat("\xff", 64), mixed(17, 508)} {
		sealed := crc.Seal(s)
		for i := range len(sealed) {
			for bit := range 8 {
				b := []byte(sealed)
				b[i] ^= 1 << bit
				if crc.Right(string(b)) {
					t.Errorf("Seal of %d bytes is right though bit %d of byte %d is turned", len(s), bit, i)
				}
			}
		}
	}
}
