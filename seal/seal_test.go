package seal_test

import (
	"encoding/binary"
	"hash/crc32"
	"math"
	"strings"
	"testing"

	"decretal/api"
	"decretal/disk"
	"decretal/seal"
)

const mostNumber = 1 << 62

// mixed tells so many bytes that look like nothing in particular, and are the same each time.
func mixed(seed uint32, length int) string {
	b := make([]byte, length)
	for i := range b {
		seed = seed*1664525 + 1013904223
		b[i] = byte(seed >> 24)
	}
	return string(b)
}

// summed puts the CRC-32C of the first 508 bytes behind them, by the library, apart from the way that the package goes.
func summed(b []byte) string {
	sum := crc32.Checksum(b[:508], crc32.MakeTable(crc32.Castagnoli))
	return string(binary.BigEndian.AppendUint32(b[:508:508], sum))
}

// laid tells a block by the document's words, of whatever number and length it is said to have.
func laid(n, length int, s string) string {
	b := make([]byte, 508)
	binary.BigEndian.PutUint64(b, uint64(n))
	binary.BigEndian.PutUint16(b[8:], uint16(length))
	binary.BigEndian.PutUint64(b[256:], uint64(n))
	for i := range len(s) {
		if i < 246 {
			b[10+i] = s[i]
		} else {
			b[264+i-246] = s[i]
		}
	}
	return summed(b)
}

// put tells a block that must be.
func put(t *testing.T, n int, s string) string {
	t.Helper()
	b, e := seal.Put(n, s)
	if len(b) != 512 || e != api.OK {
		t.Fatalf("Put(%d, %d bytes): %d bytes, %d", n, len(s), len(b), int(e))
	}
	return b
}

// takes asks whether a block's number and text are these.
func takes(t *testing.T, b string, n int, s string) {
	t.Helper()
	if m, u, e := seal.Take(b); m != n || u != s || e != api.OK {
		t.Errorf("Take: %d, %d bytes, %d, not %d, %d bytes", m, len(u), int(e), n, len(s))
	}
}

// refuses asks whether Take answers that error, and nothing beside it.
func refuses(t *testing.T, what, b string, want api.Errno) {
	t.Helper()
	if n, s, e := seal.Take(b); n != 0 || s != "" || e != want {
		t.Errorf("Take of %s: %d, %q, %d, not %d", what, n, s, int(e), int(want))
	}
}

// numbers tells such as may be put: the ends, and around each power of 2.
func numbers() []int {
	l := []int{1, 2, 258, 0x0102030405060708, mostNumber - 1, mostNumber}
	for i := 2; i < 62; i++ {
		l = append(l, 1<<i-1, 1<<i, 1<<i+1)
	}
	return l
}

// The document's example.
func TestExample(t *testing.T) {
	b := put(t, 7, "ab")
	number := "\x00\x00\x00\x00\x00\x00\x00\x07"
	if want := number + "\x00\x02ab" + strings.Repeat("\x00", 244) + number + strings.Repeat("\x00", 244); b[:508] != want {
		t.Errorf("Put(7, ab): %x", b)
	}
	takes(t, b, 7, "ab")
}

// P5.1: which numbers and texts may not be, and that the number is asked first.
func TestPutRefuses(t *testing.T) {
	long := mixed(1, seal.Most+1)
	for _, n := range []int{0, -1, -mostNumber, mostNumber + 1, math.MaxInt, math.MinInt} {
		for _, s := range []string{"", "ab", long[1:], long} {
			if b, e := seal.Put(n, s); b != "" || e != api.ErrArg {
				t.Errorf("Put(%d, %d bytes): %d bytes, %d", n, len(s), len(b), int(e))
			}
		}
	}
	for _, s := range []string{long, strings.Repeat("\x00", 491), mixed(2, 508), mixed(2, 512), mixed(3, 65536), mixed(3, 65538)} {
		for _, n := range []int{1, mostNumber} {
			if b, e := seal.Put(n, s); b != "" || e != api.ErrBig {
				t.Errorf("Put(%d, %d bytes): %d bytes, %d", n, len(s), len(b), int(e))
			}
		}
	}
	if seal.Most != 490 {
		t.Errorf("Most: %d", seal.Most)
	}
}

// P5.1 to P5.3: texts of each length, and all numbers, are laid as the document says, and taken back.
func TestBack(t *testing.T) {
	for length := range seal.Most + 1 {
		for _, s := range []string{mixed(uint32(length), length), strings.Repeat("\x00", length), strings.Repeat("\xff", length)} {
			b := put(t, 258, s)
			if b != laid(258, length, s) {
				t.Errorf("Put(258, %d bytes): %x", length, b)
			}
			takes(t, b, 258, s)
		}
	}
	for _, n := range numbers() {
		for _, s := range []string{"", "ab", mixed(5, 300)} {
			b := put(t, n, s)
			if b != laid(n, len(s), s) {
				t.Errorf("Put(%d, %d bytes): %x", n, len(s), b)
			}
			takes(t, b, n, s)
			if x, y := seal.Halves(b); x != n || y != n {
				t.Errorf("Halves: %d, %d, not %d", x, y, n)
			}
		}
	}
}

// P5.2: what has not 512 bytes has no form, whatever else is wrong with it.
func TestTakeForm(t *testing.T) {
	b := put(t, 7, "ab")
	for _, s := range []string{
		"", "\x00", b[:8], b[:10], b[:256], b[:264], b[:508], b[:511], b[1:], b + "\x00", "\x00" + b, b + b,
		strings.Repeat("\x00", 511), strings.Repeat("\x00", 513), b[:255] + b[256:],
	} {
		refuses(t, "another length", s, api.ErrForm)
		if x, y := seal.Halves(s); x != 0 || y != 0 {
			t.Errorf("Halves of %d bytes: %d, %d", len(s), x, y)
		}
	}
}

// P5.2: a block of zeros is none; with one other bit, wherever, it is another thing.
func TestTakeNone(t *testing.T) {
	zeros := strings.Repeat("\x00", 512)
	refuses(t, "zeros", zeros, api.ErrNone)
	if x, y := seal.Halves(zeros); x != 0 || y != 0 {
		t.Errorf("Halves of zeros: %d, %d", x, y)
	}
	for i := range 512 {
		want := api.ErrRot
		if i < 8 || i >= 256 && i < 264 {
			want = api.ErrTorn
		}
		for bit := range 8 {
			b := []byte(zeros)
			b[i] = 1 << bit
			refuses(t, "zeros but one", string(b), want)
		}
	}
}

// P5.2: unlike numbers are told ahead of rot, whether the sum is right or not.
func TestTakeTornFirst(t *testing.T) {
	b := []byte(put(t, 7, mixed(1, 400)))
	for i := range 8 {
		for _, at := range []int{i, 256 + i} {
			for bit := range 8 {
				x := []byte(string(b))
				x[at] ^= 1 << bit
				refuses(t, "unlike numbers", string(x), api.ErrTorn)
				refuses(t, "unlike numbers with a right sum", summed(x), api.ErrTorn)
				x[8], x[20], x[300] = 0xff, x[20]+1, x[300]+1
				refuses(t, "unlike numbers and rot", string(x), api.ErrTorn)
			}
		}
	}
	none := laid(0, 0, "")
	refuses(t, "a front with a number that may not be", none[:256]+string(b[256:]), api.ErrTorn)
	refuses(t, "a back with a number that may not be", string(b[:256])+none[256:], api.ErrTorn)
}

// P5.2: each bit that is turned is found; of both numbers like bits too.
func TestTakeRot(t *testing.T) {
	for _, s := range []string{"", "ab", mixed(1, 246), mixed(1, 247), mixed(1, 490)} {
		b := put(t, 258, s)
		for i := range 512 {
			for bit := range 8 {
				x := []byte(b)
				x[i] ^= 1 << bit
				want := api.ErrRot
				if i < 8 || i >= 256 && i < 264 {
					want = api.ErrTorn
				}
				refuses(t, "a turned bit", string(x), want)
				if want == api.ErrTorn {
					x[i^256] ^= 1 << bit
					refuses(t, "both numbers turned", string(x), api.ErrRot)
				}
			}
		}
	}
}

// P5.2: halves of two blocks with one number are not torn, but rot.
func TestTakeRotHalves(t *testing.T) {
	a, b := put(t, 7, mixed(1, 400)), put(t, 7, mixed(2, 400))
	refuses(t, "halves with one number", a[:256]+b[256:], api.ErrRot)
	refuses(t, "halves with one number", b[:256]+a[256:], api.ErrRot)
}

// P5.2: a right sum alone makes no sealed block: the length, and what is left, must be right too.
func TestTakeRotWithSum(t *testing.T) {
	for _, length := range []int{491, 492, 508, 512, 1000, 0x0200, 0x8000, 0xffff} {
		refuses(t, "a length that is too great", laid(7, length, mixed(1, 490)), api.ErrRot)
		refuses(t, "a length that is too great, of zeros", laid(7, length, ""), api.ErrRot)
	}
	full := mixed(1, 490)
	for length := range 490 {
		// As the text is not at its end there, something is left that is not 0.
		s := full[:length] + "\x01"
		refuses(t, "a length that is too small", laid(7, length, s), api.ErrRot)
		takes(t, laid(7, length+1, s), 7, s)
		refuses(t, "a rest that is not 0", laid(7, length, full[:length]+strings.Repeat("\x00", 489-length)+"\x80"), api.ErrRot)
	}
}

// P5.2 and P5.3: a number that is not put is not taken, though all else is right.
func TestTakeNumbers(t *testing.T) {
	for _, n := range []int{0, -1, -7, mostNumber + 1, mostNumber * -1, math.MaxInt, math.MinInt} {
		for _, s := range []string{"", "ab", mixed(1, 490)} {
			b := laid(n, len(s), s)
			refuses(t, "a number that may not be", b, api.ErrRot)
			if x, y := seal.Halves(b); x != n || y != n {
				t.Errorf("Halves: %d, %d, not %d", x, y, n)
			}
		}
	}
}

// P5.2: the numbers are told of any 512 bytes, also of such as are none, torn or rotten.
func TestHalves(t *testing.T) {
	for seed := range uint32(200) {
		b := mixed(seed, 512)
		n, m := int(binary.BigEndian.Uint64([]byte(b))), int(binary.BigEndian.Uint64([]byte(b[256:])))
		if x, y := seal.Halves(b); x != n || y != m {
			t.Errorf("Halves: %d, %d, not %d, %d", x, y, n, m)
		}
	}
	a, b := put(t, 3, "a"), put(t, mostNumber, "b")
	if x, y := seal.Halves(a[:256] + b[256:]); x != 3 || y != mostNumber {
		t.Errorf("Halves: %d, %d", x, y)
	}
	ones := strings.Repeat("\xff", 512)
	if x, y := seal.Halves(ones); x != -1 || y != -1 {
		t.Errorf("Halves of ones: %d, %d", x, y)
	}
}

// P5.3: of whatever is taken Put tells just that block: a byte is changed, and the sum made right again.
func TestTakeOneForm(t *testing.T) {
	taken := 0
	for _, s := range []string{"", "ab", mixed(1, 246), mixed(1, 300), mixed(1, 490)} {
		b := put(t, 258, s)
		for i := range 508 {
			for _, with := range []byte{0, 1, 2, 0x40, 0x80, 0xff} {
				x := []byte(b)
				x[i] = with
				changed := summed(x)
				n, u, e := seal.Take(changed)
				if e != api.OK {
					continue
				}
				taken++
				if again, e := seal.Put(n, u); again != changed || e != api.OK {
					t.Errorf("the byte %d of %d bytes' block is %d: Put of what is taken tells another block", i, len(s), with)
				}
			}
		}
	}
	if taken < 1000 {
		t.Errorf("only %d blocks were taken", taken)
	}
}

// P5.4: the front of one block and the back of another, of unlike numbers, are torn, whatever their texts.
func TestTorn(t *testing.T) {
	texts := []string{"", "a", "b", mixed(1, 246), mixed(2, 247), mixed(3, 490)}
	for _, n := range numbers() {
		for _, m := range []int{1, 2, 258, mostNumber - 1, mostNumber} {
			for i, s := range texts {
				a, b := put(t, n, s), put(t, m, texts[(i+1)%len(texts)])
				torn := a[:256] + b[256:]
				if n != m {
					refuses(t, "halves of two blocks", torn, api.ErrTorn)
				}
			}
		}
	}
	for _, s := range texts {
		a, b := put(t, 5, s), put(t, 6, s)
		refuses(t, "halves of one text's blocks", a[:256]+b[256:], api.ErrTorn)
		zeros := strings.Repeat("\x00", 256)
		refuses(t, "a front alone", a[:256]+zeros, api.ErrTorn)
		refuses(t, "a back alone", zeros+a[256:], api.ErrTorn)
	}
}

// P5.4: as a disk tears them.
func TestTornByDisk(t *testing.T) {
	for fate, want := range map[int]api.Errno{0: api.OK, 1: api.OK, 2: api.ErrTorn, 3: api.ErrTorn} {
		d, _ := disk.New(1)
		d.Write(0, put(t, 1, "a"))
		d.Flush()
		d.Write(0, put(t, 2, mixed(1, 490)))
		d.Crash([]int{fate})
		b, _ := d.Read(0)
		if _, _, e := seal.Take(b); e != want {
			t.Errorf("with the fate %d: %d, not %d", fate, int(e), int(want))
		}
	}
}
