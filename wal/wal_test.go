package wal_test

import (
	"encoding/binary"
	"hash/crc32"
	"math"
	"slices"
	"strings"
	"testing"

	"decretal/api"
	"decretal/disk"
	"decretal/wal"
)

const (
	mostHead  = 1 << 50
	mostBytes = 490
)

var zeros = strings.Repeat("\x00", 512)

// mixed tells so many bytes that look like nothing in particular, and are the same each time.
func mixed(seed uint32, length int) string {
	b := make([]byte, length)
	for i := range b {
		seed = seed*1664525 + 1013904223
		b[i] = byte(seed >> 24)
	}
	return string(b)
}

// sealed tells a sealed block by the document's words, with any number in either half, apart from the way that the program goes.
func sealed(front, back int, s string) string {
	b := make([]byte, 508)
	binary.BigEndian.PutUint64(b, uint64(front))
	binary.BigEndian.PutUint16(b[8:], uint16(len(s)))
	cut := min(len(s), 246)
	copy(b[10:], s[:cut])
	binary.BigEndian.PutUint64(b[256:], uint64(back))
	copy(b[264:], s[cut:])
	sum := crc32.Checksum(b, crc32.MakeTable(crc32.Castagnoli))
	return string(binary.BigEndian.AppendUint32(b, sum))
}

// block tells the block of a place's record.
func block(place int, s string) string {
	return sealed(place+1, place+1, s)
}

// made tells a new disk.
func made(t *testing.T, n int) *disk.Disk {
	t.Helper()
	d, e := disk.New(n)
	if e != api.OK {
		t.Fatal(int(e))
	}
	return d
}

// lays writes the records of the places from tail on, by the document's words.
func lays(t *testing.T, d *disk.Disk, from, n, tail int, records ...string) {
	t.Helper()
	for i, s := range records {
		answers(t, "the disk's Write", d.Write(from+(tail+i)%n, block(tail+i, s)), api.OK)
	}
	answers(t, "the disk's Flush", d.Flush(), api.OK)
}

// opened tells a log that must be.
func opened(t *testing.T, d *disk.Disk, from, n, tail, head int) *wal.Log {
	t.Helper()
	l, e := wal.Open(d, from, n, tail, head)
	if l == nil || e != api.OK {
		t.Fatalf("Open(%d, %d, %d, %d): %d", from, n, tail, head, int(e))
	}
	return l
}

// refuses asks whether Open answers that error, and no log.
func refuses(t *testing.T, d *disk.Disk, from, n, tail, head int, want api.Errno) {
	t.Helper()
	if l, e := wal.Open(d, from, n, tail, head); l != nil || e != want {
		t.Errorf("Open(%d, %d, %d, %d): %d, not %d", from, n, tail, head, int(e), int(want))
	}
}

// answers asks whether a call's error is that one.
func answers(t *testing.T, call string, e, want api.Errno) {
	t.Helper()
	if e != want {
		t.Errorf("%s: %d, not %d", call, int(e), int(want))
	}
}

// is asks whether a log of a ring of n blocks begins there, and has just these records.
func is(t *testing.T, l *wal.Log, n, tail int, records ...string) {
	t.Helper()
	head := tail + len(records)
	if l.Tail() != tail || l.Head() != head || l.Room() != n-len(records) {
		t.Errorf("Tail %d, Head %d, Room %d, not %d, %d, %d", l.Tail(), l.Head(), l.Room(), tail, head, n-len(records))
	}
	if got := l.Records(); !slices.Equal(got, records) {
		t.Errorf("Records: %.60q, not %.60q", got, records)
	}
}

// holds asks whether the disk's blocks are these, and so many writes are loose.
func holds(t *testing.T, d *disk.Disk, loose int, want ...string) {
	t.Helper()
	for i, w := range want {
		if s, e := d.Read(i); s != w || e != api.OK {
			t.Errorf("the block %d: %d, or not as it should be: %x", i, int(e), s)
		}
	}
	if n := d.Loose(); n != loose {
		t.Errorf("%d writes are loose, not %d", n, loose)
	}
}

// dark takes a disk's power.
func dark(d *disk.Disk) *disk.Disk {
	d.Arm(0)
	d.Flush()
	return d
}

// The document's example.
func TestExample(t *testing.T) {
	d := made(t, 3)
	l := opened(t, d, 0, 3, 0, 0)
	answers(t, "Append", l.Append([]string{"a", "b"}), api.OK)
	answers(t, "Trim", l.Trim(1), api.OK)
	answers(t, "Append", l.Append([]string{"c", "d"}), api.OK)
	is(t, l, 3, 1, "b", "c", "d")
	holds(t, d, 4, block(3, "d"), block(1, "b"), block(2, "c"))
}

// No log, and one that Open did not make, have nothing.
func TestNoLog(t *testing.T) {
	var none *wal.Log
	for _, l := range []*wal.Log{none, {}} {
		is(t, l, 0, 0)
		for _, records := range [][]string{nil, {}, {"a"}, {mixed(1, mostBytes+1)}} {
			answers(t, "Append", l.Append(records), api.ErrNil)
		}
		for _, tail := range []int{0, 1, -1} {
			answers(t, "Trim", l.Trim(tail), api.ErrNil)
		}
		is(t, l, 0, 0)
	}
}

// P7.1: where there is no disk that is told ahead of all else.
func TestOpenNoDisk(t *testing.T) {
	for _, d := range []*disk.Disk{nil, {}} {
		for _, c := range [][4]int{{0, 1, 0, 0}, {0, 3, 0, 1}, {0, 0, 0, 0}, {-1, 1, 0, 0}, {0, 1, -1, 0}, {0, 1, 0, 2}, {math.MaxInt, math.MaxInt, math.MaxInt, math.MaxInt}, {math.MinInt, math.MinInt, math.MinInt, math.MinInt}} {
			refuses(t, d, c[0], c[1], c[2], c[3], api.ErrNil)
		}
	}
}

// P7.1: which rings and places may not be; that is told ahead of the power, and of what stands there.
func TestOpenArg(t *testing.T) {
	const most, least = math.MaxInt, math.MinInt
	whole := made(t, 10)
	for i := range 10 {
		whole.Write(i, mixed(uint32(i), 512))
	}
	whole.Flush()
	for _, d := range []*disk.Disk{made(t, 10), whole, dark(made(t, 10))} {
		for _, r := range [][2]int{
			{-1, 1}, {-1, 10}, {-1, 11}, {least, 1}, {least, most}, {-7, 3},
			{0, 0}, {0, -1}, {3, 0}, {10, 0}, {0, least}, {9, least}, {most, least}, {-1, -1}, {11, -1},
			{10, 1}, {0, 11}, {1, 10}, {8, 3}, {9, 2}, {11, 1}, {most, 1}, {most, most}, {0, most}, {1, most}, {5, most - 4},
		} {
			for _, ends := range [][2]int{{0, 0}, {0, 1}, {-1, 0}, {0, 20}} {
				refuses(t, d, r[0], r[1], ends[0], ends[1], api.ErrArg)
			}
		}
		for _, ends := range [][2]int{
			{-1, 0}, {-1, -1}, {-1, 1}, {least, 0}, {least, least}, {least, most}, {-3, 0},
			{1, 0}, {0, -1}, {64, 63}, {most, 0}, {mostHead, mostHead - 1}, {5, least},
			{mostHead, mostHead + 1}, {mostHead + 1, mostHead + 1}, {mostHead - 1, mostHead + 1}, {most, most}, {most - 1, most},
			{0, 4}, {7, 11}, {0, mostHead}, {mostHead - 4, mostHead}, {0, most},
		} {
			refuses(t, d, 2, 3, ends[0], ends[1], api.ErrArg)
		}
	}
	refuses(t, made(t, 1), 0, 2, 0, 0, api.ErrArg)
	refuses(t, made(t, 4096), 1, 4096, 0, 0, api.ErrArg)
}

// P7.1: rings and places that may be, at their ends; of no records there is a log whatever stands there.
func TestOpenEmpty(t *testing.T) {
	whole := made(t, 10)
	for i := range 10 {
		whole.Write(i, mixed(uint32(i), 512))
	}
	for _, d := range []*disk.Disk{made(t, 10), whole, dark(made(t, 10))} {
		loose := d.Loose()
		for _, r := range [][2]int{{0, 1}, {9, 1}, {0, 10}, {1, 9}, {4, 3}, {7, 3}} {
			for _, at := range []int{0, 1, 2, 3, 10, 1 << 31, 1<<31 + 1, mostHead - 1, mostHead} {
				is(t, opened(t, d, r[0], r[1], at, at), r[1], at)
			}
		}
		if d.Loose() != loose {
			t.Errorf("%d writes are loose", d.Loose())
		}
	}
	is(t, opened(t, made(t, 1), 0, 1, 0, 0), 1, 0)
	is(t, opened(t, made(t, 4096), 0, 4096, 5, 5), 4096, 5)
}

// P7.1: the records that stand there are told, wherever the ring is and the places are, and nothing is written.
func TestOpenRecords(t *testing.T) {
	texts := []string{"", "a", mixed(1, 246), mixed(2, 247), mixed(3, mostBytes), strings.Repeat("\x00", mostBytes), strings.Repeat("\xff", 300)}
	for _, r := range [][2]int{{0, 1}, {9, 1}, {0, 10}, {1, 9}, {4, 3}, {7, 3}, {2, 8}} {
		from, n := r[0], r[1]
		for count := range min(n, len(texts)) + 1 {
			for _, tail := range []int{0, 1, 2, n - 1, n, n + 1, 5*n - 1, 1<<31 - 2, mostHead - count} {
				d := made(t, 10)
				lays(t, d, from, n, tail, texts[:count]...)
				d.Arm(0)
				l := opened(t, d, from, n, tail, tail+count)
				is(t, l, n, tail, texts[:count]...)
				d.Arm(-1)
				holds(t, d, 0)
				// A part of a log's places is a log, too.
				for cut := range count + 1 {
					is(t, opened(t, d, from, n, tail+cut, tail+count), n, tail+cut, texts[cut:count]...)
					is(t, opened(t, d, from, n, tail, tail+cut), n, tail, texts[:cut]...)
				}
			}
		}
	}
}

// P7.1: without power no record is read.
func TestOpenPower(t *testing.T) {
	d := made(t, 5)
	lays(t, d, 1, 4, 6, "a", "b")
	dark(d)
	refuses(t, d, 1, 4, 6, 8, api.ErrPower)
	refuses(t, d, 1, 4, 5, 8, api.ErrPower)
	refuses(t, d, 1, 4, 0, 4, api.ErrPower)
	is(t, opened(t, d, 1, 4, 6, 6), 4, 6)
	d.Crash(nil)
	is(t, opened(t, d, 1, 4, 6, 8), 4, 6, "a", "b")
}

// P7.1: whatever else stands where a record is to be, and at whichever place, is rot.
func TestOpenRot(t *testing.T) {
	const from, n, tail = 2, 4, 6
	texts := []string{"a", mixed(1, 300), "", mixed(2, mostBytes)}
	for i, s := range texts {
		place := tail + i
		right := block(place, s)
		old := block(place-n, "old")
		wrong := map[string]string{
			"zeros":                         zeros,
			"the record of the round ahead": old,
			"of the next round":             block(place+n, s),
			"of the place ahead":            block(place-1, s),
			"of the next place":             block(place+1, s),
			"sealed with 1":                 sealed(1, 1, s),
			"sealed with 2 to the 62":       sealed(1<<62, 1<<62, s),
			"no sealed block's number":      sealed(-place-1, -place-1, s),
			"a number that is none":         sealed(0, 0, s),
			"a front alone":                 right[:256] + zeros[256:],
			"a back alone":                  zeros[:256] + right[256:],
			"a front over an old one":       right[:256] + old[256:],
			"a back over an old one":        old[:256] + right[256:],
			"halves of one number":          block(place, "x")[:256] + right[256:],
			"another back's number":         sealed(place+1, place+2, s),
			"another front's number":        sealed(place, place+1, s),
			"a turned bit":                  right[:100] + string([]byte{right[100] ^ 1}) + right[101:],
			"a turned bit of the sum":       right[:511] + string([]byte{right[511] ^ 0x80}),
			"letters":                       strings.Repeat("a", 512),
		}
		for what, b := range wrong {
			d := made(t, 8)
			lays(t, d, from, n, tail, texts...)
			answers(t, "the disk's Write", d.Write(from+place%n, b), api.OK)
			refuses(t, d, from, n, tail, tail+n, api.ErrRot)
			refuses(t, d, from, n, place, place+1, api.ErrRot)
			// It is none of the log's where the log has not that place.
			is(t, opened(t, d, from, n, tail, place), n, tail, texts[:i]...)
			is(t, opened(t, d, from, n, place+1, tail+n), n, place+1, texts[i+1:]...)
			if t.Failed() {
				t.Fatalf("place %d: %s", place, what)
			}
		}
	}
}

// P7.2: what is too long, and what has no room, is refused in that order, and turns nothing.
func TestAppendRefuses(t *testing.T) {
	d := made(t, 6)
	lays(t, d, 1, 4, 5, "a", "b")
	l := opened(t, d, 1, 4, 5, 7)
	long := mixed(1, mostBytes+1)
	want := []string{zeros, zeros, block(5, "a"), block(6, "b"), zeros, zeros}
	d.Arm(0)
	for _, c := range []struct {
		records []string
		e       api.Errno
	}{
		{[]string{long}, api.ErrBig}, {[]string{"c", long}, api.ErrBig}, {[]string{long, "c"}, api.ErrBig}, {[]string{mixed(2, 70000)}, api.ErrBig},
		{[]string{"c", "d", long}, api.ErrBig}, {[]string{"c", "d", "e", "f", "g", long}, api.ErrBig}, {[]string{long, "c", "d", "e"}, api.ErrBig},
		{[]string{"c", "d", "e"}, api.ErrSpace}, {[]string{"", "", ""}, api.ErrSpace}, {make([]string, 5), api.ErrSpace}, {make([]string, 1000), api.ErrSpace},
		{nil, api.OK}, {[]string{}, api.OK},
	} {
		answers(t, "Append", l.Append(c.records), c.e)
		is(t, l, 4, 5, "a", "b")
		holds(t, d, 0, want...)
	}
	d.Arm(-1)
	answers(t, "Append", l.Append([]string{"c", mixed(3, mostBytes)}), api.OK)
	is(t, l, 4, 5, "a", "b", "c", mixed(3, mostBytes))
	answers(t, "Append of one", l.Append([]string{"x"}), api.ErrSpace)
	answers(t, "Append of none", l.Append(nil), api.OK)
	holds(t, d, 2, zeros, block(8, mixed(3, mostBytes)), block(5, "a"), block(6, "b"), block(7, "c"), zeros)
}

// P7.2: without power too, a record that is too long, or has no room, is told first.
func TestAppendRefusesInTheDark(t *testing.T) {
	d := made(t, 3)
	l := opened(t, d, 0, 3, 0, 0)
	answers(t, "Append", l.Append([]string{"a"}), api.OK)
	dark(d)
	answers(t, "Append", l.Append([]string{mixed(1, mostBytes+1), "", "", ""}), api.ErrBig)
	answers(t, "Append", l.Append([]string{"", "", ""}), api.ErrSpace)
	answers(t, "Append", l.Append([]string{"b"}), api.ErrPower)
	answers(t, "Append", l.Append(nil), api.OK)
	answers(t, "Trim", l.Trim(2), api.ErrArg)
	is(t, l, 3, 0, "a")
	answers(t, "Trim", l.Trim(1), api.OK)
	is(t, l, 3, 1)
}

// P7.2: where the power goes, what was ahead is written, and no more; the log stays as it was.
func TestAppendPower(t *testing.T) {
	for steps := range 5 {
		d := made(t, 7)
		lays(t, d, 1, 5, 3, "a")
		l := opened(t, d, 1, 5, 3, 4)
		d.Arm(steps)
		more := []string{"b", mixed(1, 300), "", "c"}
		want := api.ErrPower
		if steps == len(more) {
			want = api.OK
		}
		answers(t, "Append", l.Append(more), want)
		if want == api.OK {
			is(t, l, 5, 3, "a", "b", mixed(1, 300), "", "c")
			continue
		}
		is(t, l, 5, 3, "a")
		if d.Loose() != steps {
			t.Errorf("%d writes are loose, not %d", d.Loose(), steps)
		}
		d.Crash([]int{1, 1, 1, 1})
		blocks := slices.Repeat([]string{zeros}, 7)
		blocks[4] = block(3, "a")
		for i := range steps {
			blocks[1+(4+i)%5] = block(4+i, more[i])
		}
		holds(t, d, 0, blocks...)
		is(t, opened(t, d, 1, 5, 3, 4), 5, 3, "a")
		is(t, opened(t, d, 1, 5, 3, 4+steps), 5, 3, append([]string{"a"}, more[:steps]...)...)
		refuses(t, d, 1, 5, 3, 5+steps, api.ErrRot)
	}
}

// P7.2: nothing is flushed: each record is a loose write by itself, in order.
func TestAppendIsLoose(t *testing.T) {
	for _, c := range []struct {
		fates []int
		want  [4]string
	}{
		{nil, [4]string{zeros, zeros, zeros, zeros}},
		{[]int{1}, [4]string{zeros, zeros, zeros, block(2, "a")}},
		{[]int{0, 1}, [4]string{zeros, block(3, "b"), zeros, zeros}},
		{[]int{1, 1, 1}, [4]string{zeros, block(3, "b"), block(4, "c"), block(2, "a")}},
		{[]int{2, 3, 1}, [4]string{zeros, zeros[:256] + block(3, "b")[256:], block(4, "c"), block(2, "a")[:256] + zeros[256:]}},
	} {
		d := made(t, 4)
		l := opened(t, d, 1, 3, 2, 2)
		answers(t, "Append", l.Append([]string{"a", "b"}), api.OK)
		answers(t, "Append", l.Append([]string{"c"}), api.OK)
		holds(t, d, 3, zeros, block(3, "b"), block(4, "c"), block(2, "a"))
		d.Crash(c.fates)
		holds(t, d, 0, c.want[:]...)
	}
}

// P7.2: numbers go on behind 2^50, and the log is as it is; Open alone ends there.
func TestAppendFar(t *testing.T) {
	d := made(t, 3)
	l := opened(t, d, 0, 3, mostHead, mostHead)
	answers(t, "Append", l.Append([]string{"a", "b"}), api.OK)
	is(t, l, 3, mostHead, "a", "b")
	at := mostHead % 3
	if s, e := d.Read(at); s != block(mostHead, "a") || e != api.OK {
		t.Errorf("the block %d: %x, %d", at, s, int(e))
	}
	refuses(t, d, 0, 3, mostHead, mostHead+2, api.ErrArg)
}

// P7.2 and P7.3: what was handed in is not changed, nor kept, nor what stands behind its end; what was told is the caller's.
func TestOwnMemory(t *testing.T) {
	d := made(t, 8)
	l := opened(t, d, 0, 8, 0, 0)
	room := []string{"a", "b", "c", "d"}
	answers(t, "Append", l.Append(room[:2]), api.OK)
	answers(t, "Append", l.Append([]string{"e"}), api.OK)
	if !slices.Equal(room, []string{"a", "b", "c", "d"}) {
		t.Errorf("Append has changed what was handed in: %q", room)
	}
	room[0], room[1] = "x", "y"
	is(t, l, 8, 0, "a", "b", "e")
	told := l.Records()
	again := l.Records()
	told[0] = "z"
	_ = append(told[:2], "z", "z")
	if !slices.Equal(again, []string{"a", "b", "e"}) {
		t.Errorf("two answers have one memory: %q", again)
	}
	is(t, l, 8, 0, "a", "b", "e")
	kept := l.Records()
	answers(t, "Trim", l.Trim(2), api.OK)
	answers(t, "Append", l.Append([]string{"f", "g"}), api.OK)
	if !slices.Equal(kept, []string{"a", "b", "e"}) {
		t.Errorf("what was told has become %q", kept)
	}
	behind := l.Records()
	_ = append(behind, "z")
	is(t, l, 8, 2, "e", "f", "g")
}

// P7.4: a log begins where it is told to, from its tail to its head, and nothing is written.
func TestTrim(t *testing.T) {
	const tail, head = 6, 10
	texts := []string{"a", "b", "c", "d"}
	d := made(t, 7)
	lays(t, d, 1, 5, tail, texts...)
	blocks := []string{zeros, zeros, block(6, "a"), block(7, "b"), block(8, "c"), block(9, "d"), zeros}
	d.Arm(0)
	for first := tail; first <= head; first++ {
		for second := first; second <= head; second++ {
			l := opened(t, d, 1, 5, tail, head)
			for _, to := range []int{first, first, second, second} {
				answers(t, "Trim", l.Trim(to), api.OK)
				is(t, l, 5, to, texts[to-tail:]...)
				for _, wrong := range []int{to - 1, head + 1, -1, math.MaxInt, math.MinInt} {
					answers(t, "Trim beyond the ends", l.Trim(wrong), api.ErrArg)
				}
				is(t, l, 5, to, texts[to-tail:]...)
			}
		}
	}
	holds(t, d, 0, blocks...)
	empty := opened(t, d, 0, 3, 0, 0)
	answers(t, "Trim of nothing", empty.Trim(0), api.OK)
	answers(t, "Trim of nothing", empty.Trim(1), api.ErrArg)
	answers(t, "Trim of nothing", empty.Trim(-1), api.ErrArg)
	is(t, empty, 3, 0)
}

// P7.4: the room that is trimmed is there again, at once, and no more.
func TestTrimRoom(t *testing.T) {
	for n := 1; n < 6; n++ {
		for cut := range n + 1 {
			d := made(t, n)
			l := opened(t, d, 0, n, 0, 0)
			answers(t, "Append", l.Append(slices.Repeat([]string{"a"}, n)), api.OK)
			answers(t, "Trim", l.Trim(cut), api.OK)
			answers(t, "Append of one too many", l.Append(slices.Repeat([]string{"b"}, cut+1)), api.ErrSpace)
			answers(t, "Append", l.Append(slices.Repeat([]string{"b"}, cut)), api.OK)
			is(t, l, n, cut, append(slices.Repeat([]string{"a"}, n-cut), slices.Repeat([]string{"b"}, cut)...)...)
		}
	}
}

// P7.5: behind a flush the records are there, whatever becomes of what is appended later, and however often they are trimmed.
func TestFound(t *testing.T) {
	for fate := -1; fate < 5; fate++ {
		for other := -1; other < 5; other++ {
			d := made(t, 6)
			l := opened(t, d, 1, 4, 0, 0)
			answers(t, "Append", l.Append([]string{"x", "a", "b"}), api.OK)
			answers(t, "Trim", l.Trim(1), api.OK)
			answers(t, "the disk's Flush", d.Flush(), api.OK)
			answers(t, "Append", l.Append([]string{"c", "d"}), api.OK)
			d.Crash([]int{fate, other})
			m := opened(t, d, 1, 4, 1, 3)
			is(t, m, 4, 1, "a", "b")
			answers(t, "Append", m.Append([]string{"e", mixed(1, 300)}), api.OK)
			answers(t, "the disk's Flush", d.Flush(), api.OK)
			d.Crash(nil)
			is(t, opened(t, d, 1, 4, 1, 5), 4, 1, "a", "b", "e", mixed(1, 300))
		}
	}
}

// play is a log as a list of all that was appended, apart from the way that the package goes.
type play struct {
	from, n, first, tail int
	all                  []string // from the place first on
	blocks               []string
}

func (p *play) live() []string { return p.all[p.tail-p.first:] }
func (p *play) head() int      { return p.first + len(p.all) }

func (p *play) add(records []string) api.Errno {
	for _, s := range records {
		if len(s) > mostBytes {
			return api.ErrBig
		}
	}
	if len(p.live())+len(records) > p.n {
		return api.ErrSpace
	}
	for _, s := range records {
		p.blocks[p.from+p.head()%p.n] = block(p.head(), s)
		p.all = append(p.all, s)
	}
	return api.OK
}

func (p *play) trim(tail int) api.Errno {
	if tail < p.tail || tail > p.head() {
		return api.ErrArg
	}
	p.tail = tail
	return api.OK
}

// some tells up to so many records of all lengths, now and then one that is too long.
func some(seed uint32, most int) []string {
	b := mixed(seed, 10)
	l := make([]string, int(b[9])%(most+1))
	for i := range l {
		l[i] = mixed(seed+uint32(i), min(int(b[i])*2, mostBytes+1))
	}
	return l
}

// P7.2 to P7.6: however often the ring is gone round, a log is as all that was done says, on the disk as well, opened again as well; other blocks stay.
func TestRing(t *testing.T) {
	for seed := range uint32(60) {
		b := mixed(seed, 400)
		p := &play{from: int(b[0] % 4), n: 1 + int(b[1]%7), first: int(b[2]) * int(b[2])}
		p.tail = p.first
		d := made(t, 12)
		for i := range 12 {
			p.blocks = append(p.blocks, mixed(uint32(i), 512))
			d.Write(i, p.blocks[i])
		}
		l := opened(t, d, p.from, p.n, p.first, p.first)
		for step := 4; step+2 < len(b); step += 3 {
			what := b[step : step+3]
			switch what[0] % 5 {
			case 0, 1:
				to := p.tail + int(what[1])%(p.n+2) - 1
				answers(t, "Trim", l.Trim(to), p.trim(to))
			case 2:
				d.Flush()
				d.Crash(nil)
				l = opened(t, d, p.from, p.n, p.tail, p.head())
			default:
				records := some(uint32(what[1])<<8+uint32(what[2]), p.n+1)
				answers(t, "Append", l.Append(records), p.add(records))
			}
			is(t, l, p.n, p.tail, p.live()...)
			is(t, opened(t, d, p.from, p.n, p.tail, p.head()), p.n, p.tail, p.live()...)
			holds(t, d, d.Loose(), p.blocks...)
			if t.Failed() {
				t.Fatalf("with the seed %d, at the step %d", seed, step)
			}
		}
		if len(p.all) < 3*p.n {
			t.Errorf("with the seed %d the ring of %d blocks has had no more than %d records", seed, p.n, len(p.all))
		}
	}
}

// P7.6: of a ring that is gone round many times the last records are there, each in its block.
func TestRounds(t *testing.T) {
	d := made(t, 66)
	l := opened(t, d, 2, 64, 0, 0)
	for i := range 1000 {
		answers(t, "Append", l.Append([]string{mixed(uint32(i), i%491)}), api.OK)
		if l.Room() == 0 {
			answers(t, "Trim", l.Trim(l.Tail()+1+i%3), api.OK)
		}
	}
	answers(t, "the disk's Flush", d.Flush(), api.OK)
	var want []string
	for i := l.Tail(); i < 1000; i++ {
		want = append(want, mixed(uint32(i), i%491))
		if s, e := d.Read(2 + i%64); s != block(i, want[len(want)-1]) || e != api.OK {
			t.Errorf("the block of the place %d: %d", i, int(e))
		}
	}
	is(t, l, 64, l.Tail(), want...)
	is(t, opened(t, d, 2, 64, l.Tail(), 1000), 64, l.Tail(), want...)
	holds(t, d, 0, zeros, zeros)
}
