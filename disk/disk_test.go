package disk_test

import (
	"math"
	"slices"
	"strings"
	"testing"

	"decretal/api"
	"decretal/disk"
)

// full tells a block of one letter.
func full(s string) string { return strings.Repeat(s, api.BlockBytes) }

// half tells half a block of one letter.
func half(s string) string { return strings.Repeat(s, 256) }

// mixed tells so many bytes that look like nothing in particular, and are the same each time.
func mixed(seed uint32, length int) string {
	b := make([]byte, length)
	for i := range b {
		seed = seed*1664525 + 1013904223
		b[i] = byte(seed >> 24)
	}
	return string(b)
}

// made tells a new disk.
func made(t *testing.T, n int) *disk.Disk {
	t.Helper()
	d, e := disk.New(n)
	if d == nil || e != api.OK {
		t.Fatalf("New(%d): %d", n, int(e))
	}
	return d
}

// holds asks whether the disk's blocks are these, and so many writes are loose.
func holds(t *testing.T, d *disk.Disk, loose int, want ...string) {
	t.Helper()
	for i, w := range want {
		if s, e := d.Read(i); s != w || e != api.OK {
			t.Errorf("Read(%d): %.3q .. %.3q (%d bytes), %d, not %.3q .. %.3q", i, s, s[max(0, len(s)-3):], len(s), int(e), w, w[len(w)-3:])
		}
	}
	if n := d.Loose(); n != loose {
		t.Errorf("Loose: %d, not %d", n, loose)
	}
}

// answers asks whether a call's error is that one.
func answers(t *testing.T, call string, e, want api.Errno) {
	t.Helper()
	if e != want {
		t.Errorf("%s: %d, not %d", call, int(e), int(want))
	}
}

// No disk, and one that New did not make, have nothing.
func TestNoDisk(t *testing.T) {
	var none *disk.Disk
	for _, d := range []*disk.Disk{none, {}} {
		if d.Len() != 0 || d.Loose() != 0 || d.Copy() != nil {
			t.Errorf("%v: %d blocks, %d loose, copy %v", d, d.Len(), d.Loose(), d.Copy())
		}
		if s, e := d.Read(0); s != "" || e != api.ErrNil {
			t.Errorf("Read: %q, %d", s, int(e))
		}
		answers(t, "Read(-1)", second(d.Read(-1)), api.ErrNil)
		answers(t, "Write", d.Write(0, full("a")), api.ErrNil)
		answers(t, "Write of a short text", d.Write(-1, "a"), api.ErrNil)
		answers(t, "Flush", d.Flush(), api.ErrNil)
		answers(t, "Arm", d.Arm(0), api.ErrNil)
		answers(t, "Flush, armed", d.Flush(), api.ErrNil)
		answers(t, "Crash", d.Crash([]int{1}), api.ErrNil)
	}
}

// second tells the error beside a block.
func second(_ string, e api.Errno) api.Errno { return e }

// P4.1: how many blocks there may be; all are zeros.
func TestNew(t *testing.T) {
	for _, n := range []int{0, -1, 4097, math.MaxInt, math.MinInt} {
		if d, e := disk.New(n); d != nil || e != api.ErrArg {
			t.Errorf("New(%d): %d", n, int(e))
		}
	}
	for _, n := range []int{1, 2, 98, 4095, 4096} {
		d := made(t, n)
		if d.Len() != n {
			t.Errorf("New(%d) has %d blocks", n, d.Len())
		}
		holds(t, d, 0, slices.Repeat([]string{full("\x00")}, n)...)
		answers(t, "Write to the last block", d.Write(n-1, full("a")), api.OK)
		answers(t, "Write behind the last block", d.Write(n, full("a")), api.ErrArg)
	}
}

// P4.2: what was written last is read, loose or not, and what is refused changes nothing.
func TestReadWrite(t *testing.T) {
	d := made(t, 3)
	answers(t, "Write", d.Write(1, mixed(1, 512)), api.OK)
	holds(t, d, 1, full("\x00"), mixed(1, 512), full("\x00"))
	answers(t, "Write", d.Write(1, mixed(2, 512)), api.OK)
	answers(t, "Write", d.Write(1, mixed(2, 512)), api.OK)
	answers(t, "Write", d.Write(2, full("\x00")), api.OK)
	holds(t, d, 4, full("\x00"), mixed(2, 512), full("\x00"))
	answers(t, "Flush", d.Flush(), api.OK)
	holds(t, d, 0, full("\x00"), mixed(2, 512), full("\x00"))
	answers(t, "Write", d.Write(0, full("\xff")), api.OK)
	for _, i := range []int{-1, 3, 4096, math.MaxInt, math.MinInt} {
		if s, e := d.Read(i); s != "" || e != api.ErrArg {
			t.Errorf("Read(%d): %q, %d", i, s, int(e))
		}
		answers(t, "Write to no block", d.Write(i, full("a")), api.ErrArg)
	}
	for _, n := range []int{0, 1, 256, 480, 511, 513, 1024} {
		answers(t, "Write of another length", d.Write(0, strings.Repeat("a", n)), api.ErrArg)
	}
	holds(t, d, 1, full("\xff"), mixed(2, 512), full("\x00"))
}

// P4.2: where the power is gone that is told ahead of all else; what needs none is told still.
func TestPowerFirst(t *testing.T) {
	d := made(t, 2)
	d.Write(0, full("a"))
	d.Arm(0)
	answers(t, "Write to no block", d.Write(2, full("b")), api.ErrArg)
	answers(t, "Write of a short text", d.Write(0, "b"), api.ErrArg)
	answers(t, "Read of no block", second(d.Read(2)), api.ErrArg)
	holds(t, d, 1, full("a"))
	answers(t, "Flush", d.Flush(), api.ErrPower)
	for _, i := range []int{0, 1, 2, -1} {
		if s, e := d.Read(i); s != "" || e != api.ErrPower {
			t.Errorf("Read(%d): %d bytes, %d", i, len(s), int(e))
		}
		answers(t, "Write", d.Write(i, full("b")), api.ErrPower)
		answers(t, "Write of a short text", d.Write(i, "b"), api.ErrPower)
	}
	answers(t, "Flush", d.Flush(), api.ErrPower)
	for _, n := range []int{-1, 0, 5} {
		answers(t, "Arm", d.Arm(n), api.ErrPower)
	}
	if d.Len() != 2 || d.Loose() != 1 {
		t.Errorf("Len %d, Loose %d", d.Len(), d.Loose())
	}
	answers(t, "Crash", d.Crash(nil), api.OK)
	holds(t, d, 0, full("\x00"), full("\x00"))
}

// P4.3: so many writes and flushes are done, whichever; those that are refused, and reads, are not counted.
func TestArm(t *testing.T) {
	for n := range 6 {
		for flushes := range 1 << 6 {
			d := made(t, 1)
			answers(t, "Arm", d.Arm(n), api.OK)
			for i := range 6 {
				want := api.OK
				if i >= n {
					want = api.ErrPower
				} else {
					answers(t, "Write of a short text", d.Write(0, "x"), api.ErrArg)
					answers(t, "Read", second(d.Read(0)), api.OK)
					answers(t, "Read of no block", second(d.Read(1)), api.ErrArg)
					d.Loose()
				}
				if flushes>>i&1 == 0 {
					answers(t, "Write", d.Write(0, full("a")), want)
				} else {
					answers(t, "Flush", d.Flush(), want)
				}
			}
		}
	}
}

// P4.3: with the call that the power goes with nothing is done; what Arm said last holds, and below 0 the power stays.
func TestArmEnds(t *testing.T) {
	d := made(t, 1)
	d.Arm(1)
	d.Write(0, full("a"))
	answers(t, "Flush without power", d.Flush(), api.ErrPower)
	d.Crash(nil)
	holds(t, d, 0, full("\x00"))
	d.Arm(0)
	answers(t, "Write without power", d.Write(0, full("b")), api.ErrPower)
	if d.Loose() != 0 {
		t.Errorf("Loose: %d", d.Loose())
	}
	d.Crash([]int{1})
	holds(t, d, 0, full("\x00"))

	for _, stays := range []int{-1, -2, math.MinInt, math.MaxInt} {
		d.Arm(0)
		answers(t, "Arm again", d.Arm(stays), api.OK)
		for range 20 {
			answers(t, "Write", d.Write(0, full("c")), api.OK)
			answers(t, "Flush", d.Flush(), api.OK)
		}
	}
	d.Arm(5)
	d.Write(0, full("d"))
	d.Arm(1)
	answers(t, "Write", d.Write(0, full("e")), api.OK)
	answers(t, "Write", d.Write(0, full("f")), api.ErrPower)
}

// P4.4: each fate, and each number that is none.
func TestFates(t *testing.T) {
	for fate, want := range map[int]string{
		1: full("b"), 2: half("b") + half("a"), 3: half("a") + half("b"),
		0: full("a"), 4: full("a"), -1: full("a"), -2: full("a"), 257: full("a"), 1 << 32: full("a"), 1<<32 + 1: full("a"),
		math.MaxInt: full("a"), math.MinInt: full("a"), math.MinInt + 1: full("a"),
	} {
		d := made(t, 2)
		d.Write(0, full("a"))
		d.Flush()
		d.Write(0, full("b"))
		fates := []int{fate, 1, 2, 3}
		answers(t, "Crash", d.Crash(fates), api.OK)
		holds(t, d, 0, want, full("\x00"))
		if !slices.Equal(fates, []int{fate, 1, 2, 3}) {
			t.Errorf("Crash has changed the fates: %v", fates)
		}
	}
}

// P4.4: the cut between front and back is at byte 256, whatever stands there.
func TestHalves(t *testing.T) {
	a, b := mixed(7, 512), mixed(8, 512)
	for fate, want := range map[int]string{2: b[:256] + a[256:], 3: a[:256] + b[256:]} {
		d := made(t, 1)
		d.Write(0, a)
		d.Flush()
		d.Write(0, b)
		d.Crash([]int{fate})
		holds(t, d, 0, want)
	}
}

// P4.4: several writes are done one after the other, each by its own fate; without one it is lost.
func TestFatesInOrder(t *testing.T) {
	for _, c := range []struct {
		fates []int
		want  [2]string
	}{
		{nil, [2]string{full("a"), full("\x00")}},
		{[]int{}, [2]string{full("a"), full("\x00")}},
		{[]int{1}, [2]string{full("b"), full("\x00")}},
		{[]int{0, 1}, [2]string{full("a"), full("c")}},
		{[]int{1, 1, 1, 1}, [2]string{full("d"), full("e")}},
		{[]int{1, 1, 0, 0}, [2]string{full("b"), full("c")}},
		{[]int{2, 0, 3}, [2]string{half("b") + half("d"), full("\x00")}},
		{[]int{3, 2, 2, 3}, [2]string{half("d") + half("b"), half("c") + half("e")}},
		{[]int{1, 1, 2, 3}, [2]string{half("d") + half("b"), half("c") + half("e")}},
		{[]int{2, 2, 1, 2}, [2]string{full("d"), half("e") + half("\x00")}},
		{[]int{2, 9, 2, -1}, [2]string{half("d") + half("a"), full("\x00")}},
		{[]int{1, 1, 1, 1, 0, 0, 2, 3}, [2]string{full("d"), full("e")}},
	} {
		d := made(t, 2)
		d.Write(0, full("a"))
		d.Flush()
		for i, s := range []string{"b", "c", "d", "e"} {
			d.Write(i%2, full(s))
		}
		answers(t, "Crash", d.Crash(c.fates), api.OK)
		holds(t, d, 0, c.want[0], c.want[1])
	}
}

// P4.4: behind a crash the power is there, and stays, and what the crash left is there behind the next one.
func TestBehindCrash(t *testing.T) {
	d := made(t, 2)
	d.Arm(1)
	d.Write(0, full("a"))
	d.Crash([]int{2})
	for range 5 {
		answers(t, "Write", d.Write(1, full("b")), api.OK)
		holds(t, d, 1, half("a")+half("\x00"), full("b"))
		answers(t, "Crash", d.Crash(nil), api.OK)
		holds(t, d, 0, half("a")+half("\x00"), full("\x00"))
	}
	d.Arm(0)
	answers(t, "Write", d.Write(1, full("b")), api.ErrPower)
	for range 2 {
		d.Crash([]int{1, 1})
		holds(t, d, 0, half("a")+half("\x00"), full("\x00"))
	}
	answers(t, "Arm", d.Arm(2), api.OK)
	answers(t, "Write", d.Write(1, full("c")), api.OK)
	answers(t, "Flush", d.Flush(), api.OK)
	answers(t, "Flush", d.Flush(), api.ErrPower)
}

// P4.4: a copy is like the disk in all, and goes its own way, however many writes are loose.
func TestCopy(t *testing.T) {
	for n := range 40 {
		d := made(t, 2)
		d.Write(0, full("a"))
		d.Write(1, full("a"))
		d.Flush()
		for range n {
			d.Write(0, full("b"))
		}
		c := d.Copy()
		holds(t, c, n, first(d), full("a"))
		d.Write(0, full("d"))
		c.Write(1, full("c"))
		d.Write(0, full("e"))
		holds(t, d, n+2, full("e"), full("a"))
		holds(t, c, n+1, first(c), full("c"))
		both := d.Copy()
		fates := append(make([]int, n), 1, 2)
		d.Crash(fates)
		c.Crash(fates)
		holds(t, d, 0, half("e")+half("d"), full("a"))
		holds(t, c, 0, full("a"), full("c"))
		both.Flush()
		both.Crash(nil)
		holds(t, both, 0, full("e"), full("a"))
	}
}

// first tells a disk's first block.
func first(d *disk.Disk) string {
	s, _ := d.Read(0)
	return s
}

// P4.4: a copy has what Arm said, and what is left of it, and has no power if the disk has none.
func TestCopyPower(t *testing.T) {
	d := made(t, 1)
	d.Arm(3)
	d.Write(0, full("a"))
	c := d.Copy()
	answers(t, "the copy's Write", c.Write(0, full("b")), api.OK)
	answers(t, "the copy's Flush", c.Flush(), api.OK)
	answers(t, "the copy's Flush", c.Flush(), api.ErrPower)
	holds(t, d, 1, full("a"))
	gone := c.Copy()
	answers(t, "a copy's Read without power", second(gone.Read(0)), api.ErrPower)
	answers(t, "a copy's Arm without power", gone.Arm(-1), api.ErrPower)
	gone.Crash(nil)
	holds(t, gone, 0, full("b"))
	answers(t, "Read without power", second(c.Read(0)), api.ErrPower)
	answers(t, "Write", d.Write(0, full("c")), api.OK)
	answers(t, "Flush", d.Flush(), api.OK)
	answers(t, "Write", d.Write(0, full("d")), api.ErrPower)
}

// P4.5: what was flushed is there behind any crash, whatever becomes of other blocks.
func TestStays(t *testing.T) {
	d := made(t, 3)
	for i := range 3 {
		d.Write(i, mixed(uint32(i), 512))
	}
	d.Flush()
	for fate := -1; fate < 5; fate++ {
		for other := -1; other < 5; other++ {
			d.Write(2, full("x"))
			d.Write(2, full("y"))
			d.Arm(0)
			d.Flush()
			d.Crash([]int{fate, other, fate, other})
			holds(t, d, 0, mixed(0, 512), mixed(1, 512))
		}
	}
}

// history is a disk as a list of all that was done, apart from the way that the package goes.
type history struct {
	kept  []string
	loose []struct {
		at int
		s  string
	}
	left int
	gone bool
}

func (h *history) step() api.Errno {
	if h.gone || h.left == 0 {
		h.gone = true
		return api.ErrPower
	}
	h.left--
	return api.OK
}

func (h *history) read(i int) (string, api.Errno) {
	if h.gone {
		return "", api.ErrPower
	}
	s := h.kept[i]
	for _, w := range h.loose {
		if w.at == i {
			s = w.s
		}
	}
	return s, api.OK
}

func (h *history) write(i int, s string) api.Errno {
	e := h.step()
	if e == api.OK {
		h.loose = append(h.loose, struct {
			at int
			s  string
		}{i, s})
	}
	return e
}

func (h *history) flush() api.Errno {
	e := h.step()
	if e == api.OK {
		h.fall(slices.Repeat([]int{1}, len(h.loose)))
	}
	return e
}

func (h *history) arm(n int) api.Errno {
	if h.gone {
		return api.ErrPower
	}
	h.left = n
	return api.OK
}

func (h *history) fall(fates []int) {
	for i, w := range h.loose {
		old := h.kept[w.at]
		if i < len(fates) {
			switch fates[i] {
			case 1:
				h.kept[w.at] = w.s
			case 2:
				h.kept[w.at] = w.s[:256] + old[256:]
			case 3:
				h.kept[w.at] = old[:256] + w.s[256:]
			}
		}
	}
	h.loose = nil
}

func (h *history) crash(fates []int) api.Errno {
	h.fall(fates)
	h.gone, h.left = false, -1
	return api.OK
}

// P4.2 to P4.6: whatever is done, a disk is as its history says, and two disks with one history, of which one is copied each time, are like one another.
func TestSame(t *testing.T) {
	const blocks = 4
	for seed := range uint32(300) {
		steps := mixed(seed, 300)
		d, o := made(t, blocks), made(t, blocks)
		h := &history{kept: slices.Repeat([]string{full("\x00")}, blocks), left: -1}
		for i := 0; i+3 < len(steps); i += 3 {
			what, at, seed := steps[i]%16, int(steps[i+1])%blocks, uint32(steps[i+2])
			var e, f, want api.Errno
			switch {
			case what < 9:
				s := mixed(seed%4, 512)
				e, f, want = d.Write(at, s), o.Write(at, s), h.write(at, s)
			case what < 11:
				e, f, want = d.Flush(), o.Flush(), h.flush()
			case what < 13:
				n := int(steps[i+1])%20 - 2
				e, f, want = d.Arm(n), o.Arm(n), h.arm(n)
			case what < 14 || d.Loose() > 6:
				var fates []int
				for _, b := range []byte(mixed(seed, at*3)) {
					fates = append(fates, int(b)%5-1)
				}
				e, f, want = d.Crash(fates), o.Crash(fates), h.crash(fates)
			}
			answers(t, "a step", e, want)
			answers(t, "the other disk's step", f, want)
			alike(t, d, o, h)
			left := o
			o = o.Copy()
			left.Crash([]int{3, 2, 1})
			left.Write(at, full("z"))
		}
		if t.Failed() {
			t.Fatalf("with the seed %d", seed)
		}
	}
}

// alike asks whether both disks are as the history says.
func alike(t *testing.T, d, o *disk.Disk, h *history) {
	t.Helper()
	if d.Loose() != len(h.loose) || o.Loose() != len(h.loose) {
		t.Errorf("Loose: %d and %d, not %d", d.Loose(), o.Loose(), len(h.loose))
	}
	for i := range d.Len() {
		want, e := h.read(i)
		s, f := d.Read(i)
		u, g := o.Read(i)
		if s != want || u != want || f != e || g != e {
			t.Errorf("Read(%d): %d and %d, not %d, or other blocks", i, int(f), int(g), int(e))
		}
	}
}

// What was read stays as it is, whatever is done to the disk later.
func TestReadIsNew(t *testing.T) {
	d := made(t, 1)
	d.Write(0, full("a"))
	s, _ := d.Read(0)
	d.Write(0, full("b"))
	d.Flush()
	d.Crash(nil)
	if s != full("a") {
		t.Errorf("what was read has become %.3q", s)
	}
}
