package sha_test

import (
	"crypto/sha256"
	"encoding/hex"
	"slices"
	"strings"
	"testing"

	"decretal/sha"
)

// library tells a text's digest as Go's library has it, apart from the way that the package goes.
func library(s string) string {
	sum := sha256.Sum256([]byte(s))
	return string(sum[:])
}

// mixed tells so many bytes that look like nothing in particular, and are the same each time.
func mixed(seed uint32, length int) string {
	b := make([]byte, length)
	for i := range b {
		seed = seed*1664525 + 1013904223
		b[i] = byte(seed >> 24)
	}
	return string(b)
}

// P3.1: the digests of known texts, of the standard and of the document.
func TestSumKnown(t *testing.T) {
	for s, want := range map[string]string{
		"":    "e3b0c44298fc1c149afbf4c8996fb92427ae41e4649b934ca495991b7852b855",
		"abc": "ba7816bf8f01cfea414140de5dae2223b00361a396177a9cb410ff61f20015ad",
		"abcdbcdecdefdefgefghfghighijhijkijkljklmklmnlmnomnopnopq":                                                         "248d6a61d20638b8e5c026930c3e6039a33ce45964ff2167f6ecedd419db06c1",
		"abcdefghbcdefghicdefghijdefghijkefghijklfghijklmghijklmnhijklmnoijklmnopjklmnopqklmnopqrlmnopqrsmnopqrstnopqrstu": "cf5b16a778af8380036ce59e7b0492370b249b11e8f07a51afac45037afee9d1",
		strings.Repeat("a", 1000000): "cdc76e5c9914fb9281a1c7e284d73e67f1809a48a497200e046d39ccc7112cd0",
	} {
		if got := sha.Hex(sha.Sum(s)); got != want {
			t.Errorf("Hex(Sum(%d bytes)): %s, not %s", len(s), got, want)
		}
	}
	if got := sha.Hex(sha.Sum("abc")); !strings.HasPrefix(got, "ba7816bf") || !strings.HasSuffix(got, "f20015ad") {
		t.Errorf("Hex(Sum(abc)): %s", got)
	}
}

// P3.1: no texts, and none of any length, have the digest of nothing.
func TestSumNothing(t *testing.T) {
	want := library("")
	if sha.Sum() != want || sha.Sum(nil...) != want || sha.Sum("") != want || sha.Sum("", "", "") != want {
		t.Errorf("Sum of nothing: %x, %x, %x, %x, not %x", sha.Sum(), sha.Sum(nil...), sha.Sum(""), sha.Sum("", "", ""), want)
	}
}

// P3.1: each length has its filling: a block more from 56 of 64 bytes on.
func TestSumLengths(t *testing.T) {
	for n := range 300 {
		for _, s := range []string{mixed(uint32(n), n), strings.Repeat("\x00", n), strings.Repeat("\xff", n), strings.Repeat("\x80", n)} {
			got := sha.Sum(s)
			if len(got) != sha.Size {
				t.Fatalf("Sum of %d bytes has %d", n, len(got))
			}
			if want := library(s); got != want {
				t.Fatalf("Sum(%x): %x, not %x", s, got, want)
			}
		}
	}
	for _, n := range []int{511, 512, 513, 8191, 8192, 8193, 70000, 1 << 21} { // the length in bits has one byte, two, three, four
		if got, want := sha.Sum(mixed(5, n)), library(mixed(5, n)); got != want {
			t.Errorf("Sum of %d bytes: %x, not %x", n, got, want)
		}
	}
}

// P3.1: the texts of a list stand one behind the other, and are not changed.
func TestSumList(t *testing.T) {
	l := []string{"cd", "", "ab", "\x00", "\xff\xff"}
	ahead := slices.Clone(l)
	if got, want := sha.Sum(l...), library("cdab\x00\xff\xff"); got != want {
		t.Errorf("Sum(%q): %x, not %x", l, got, want)
	}
	if !slices.Equal(l, ahead) {
		t.Errorf("Sum has changed %q to %q", ahead, l)
	}
	if sha.Sum("ab", "cd") == sha.Sum("cd", "ab") {
		t.Error("Sum is the same in either order")
	}
}

// P3.1: Hex tells each byte as two small digits.
func TestHex(t *testing.T) {
	for s, want := range map[string]string{
		"":                     "",
		"\x00":                 "00",
		"\x0f\xa0":             "0fa0",
		"\x01\x23\x45\x67":     "01234567",
		"\x89\xab\xcd\xef\xff": "89abcdefff",
		"az\n\u00e4":           "617a0ac3a4",
	} {
		if got := sha.Hex(s); got != want {
			t.Errorf("Hex(%q): %s, not %s", s, got, want)
		}
	}
	all := make([]byte, 256)
	for b := range all {
		all[b] = byte(b)
		if got, want := sha.Hex(string(all[b:b+1])), hex.EncodeToString(all[b:b+1]); got != want {
			t.Errorf("Hex of byte %d: %s, not %s", b, got, want)
		}
	}
	if got, want := sha.Hex(string(all)), hex.EncodeToString(all); got != want {
		t.Errorf("Hex of all bytes: %s, not %s", got, want)
	}
}

// P3.2: Link is the digest of both, whatever their lengths are.
func TestLink(t *testing.T) {
	sums := []string{"", "x", library(""), library("abc"), mixed(3, 31), mixed(4, 33), mixed(5, 64)}
	texts := []string{"", "y", "abc", library("x"), mixed(6, 23), mixed(7, 24), mixed(8, 32), mixed(9, 1400)}
	for _, sum := range sums {
		for _, s := range texts {
			if got, want := sha.Link(sum, s), library(sum+s); got != want {
				t.Errorf("Link(%x, %x): %x, not %x", sum, s, got, want)
			}
		}
	}
	if sha.Link("x", "y") == sha.Link("y", "x") {
		t.Error("Link is the same in either order")
	}
}

// P3.2: Chain without texts is sum, of whatever length; with an empty one it is a digest.
func TestChainNone(t *testing.T) {
	for _, sum := range []string{"", "x", library("abc"), mixed(1, 31), mixed(2, 100)} {
		if got := sha.Chain(sum); got != sum {
			t.Errorf("Chain(%x): %x", sum, got)
		}
		if got := sha.Chain(sum, nil...); got != sum {
			t.Errorf("Chain(%x, no list): %x", sum, got)
		}
		if got, want := sha.Chain(sum, ""), library(sum); got != want {
			t.Errorf("Chain(%x, an empty text): %x, not %x", sum, got, want)
		}
	}
}

// P3.2: Chain links one by one, in the order in which the texts stand.
func TestChain(t *testing.T) {
	l := []string{"y", "", "z", mixed(1, 64), "y", mixed(2, 200)}
	ahead := slices.Clone(l)
	for _, sum := range []string{"", "x", library("abc")} {
		want := sum
		for i := range len(l) + 1 {
			if got := sha.Chain(sum, l[:i]...); got != want {
				t.Errorf("Chain(%x, %d texts): %x, not %x", sum, i, got, want)
			}
			if i < len(l) {
				want = library(want + l[i])
			}
		}
	}
	if !slices.Equal(l, ahead) {
		t.Errorf("Chain has changed %q to %q", ahead, l)
	}
	if sha.Chain("x", "y", "z") == sha.Chain("x", "z", "y") {
		t.Error("Chain is the same in either order")
	}
	if sha.Chain("x", "y", "z") == sha.Chain("x", "yz") {
		t.Error("Chain of two texts is that of both in one")
	}
}

// P3.3: in whatever parts a text is summed its digest is the same.
func TestSumParts(t *testing.T) {
	for _, s := range []string{"", "1", "123456789", mixed(11, 55), mixed(12, 56), mixed(13, 64), mixed(14, 130)} {
		want := library(s)
		for i := range len(s) + 1 {
			if got := sha.Sum(s[:i], s[i:]); got != want {
				t.Fatalf("Sum of %d bytes, cut at %d: %x, not %x", len(s), i, got, want)
			}
			for j := i; j <= len(s); j++ {
				if got := sha.Sum(s[:i], s[i:j], "", s[j:]); got != want {
					t.Fatalf("Sum of %d bytes, cut at %d and %d: %x, not %x", len(s), i, j, got, want)
				}
			}
		}
		if got := sha.Sum(strings.Split(s, "")...); got != want {
			t.Errorf("Sum of %d bytes, one by one: %x, not %x", len(s), got, want)
		}
	}
}

// P3.3: a chain of some texts, and then of others, is that of all.
func TestChainParts(t *testing.T) {
	l := []string{"a", "", "bc", mixed(21, 63), mixed(22, 64), mixed(23, 65), "a"}
	for _, sum := range []string{"", library("begun"), mixed(24, 40)} {
		want := sha.Chain(sum, l...)
		for i := range len(l) + 1 {
			if got := sha.Chain(sha.Chain(sum, l[:i]...), l[i:]...); got != want {
				t.Errorf("Chain from %x, cut at %d: %x, not %x", sum, i, got, want)
			}
		}
	}
}
