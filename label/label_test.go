package label_test

import (
	"encoding/binary"
	"hash/crc32"
	"math"
	"strings"
	"testing"

	"decretal/api"
	"decretal/disk"
	"decretal/label"
)

const (
	mostTurn = 1 << 62
	mostHead = 1 << 50
)

// mixed tells so many bytes that look like nothing in particular, and are the same each time.
func mixed(seed uint32, length int) string {
	b := make([]byte, length)
	for i := range b {
		seed = seed*1664525 + 1013904223
		b[i] = byte(seed >> 24)
	}
	return string(b)
}

// laid tells a label's bytes by the document's words, apart from the way that the package goes, whether it may be or not.
func laid(tail, head int, note string) string {
	b := binary.AppendVarint(nil, int64(tail))
	b = binary.AppendVarint(b, int64(head))
	b = binary.AppendVarint(b, int64(len(note)))
	return string(b) + note
}

// sealed tells a sealed block by the document's words, with any number in either half.
func sealed(front, back int, s string) string {
	b := make([]byte, 508)
	binary.BigEndian.PutUint64(b, uint64(front))
	binary.BigEndian.PutUint16(b[8:], uint16(len(s)))
	cut := min(len(s), 246)
	copy(b[10:], s[:cut])
	binary.BigEndian.PutUint64(b[256:], uint64(back))
	copy(b[264:], s[cut:])
	sum := crc32.Checksum(b, crc32.MakeTable(crc32.Castagnoli))
	return string(binary.BigEndian.AppendUint32(b, sum))
}

// block tells the block of a label.
func block(l api.Label) string {
	return sealed(l.Turn, l.Turn, laid(l.Tail, l.Head, l.Note))
}

var zeros = strings.Repeat("\x00", 512)

// made tells a disk whose first blocks are these, and that has some more.
func made(t *testing.T, l ...string) *disk.Disk {
	t.Helper()
	d, e := disk.New(5)
	if e != api.OK {
		t.Fatal(int(e))
	}
	for i, s := range l {
		answers(t, "the disk's Write", d.Write(i, s), api.OK)
	}
	answers(t, "the disk's Flush", d.Flush(), api.OK)
	return d
}

// holds asks whether the disk's blocks are these, and none is loose.
func holds(t *testing.T, d *disk.Disk, want ...string) {
	t.Helper()
	for i, w := range want {
		if s, e := d.Read(i); s != w || e != api.OK {
			t.Errorf("the block %d: %d, or not as it should be: %x", i, int(e), s)
		}
	}
	if n := d.Loose(); n != 0 {
		t.Errorf("%d writes are loose", n)
	}
}

// answers asks whether a call's error is that one.
func answers(t *testing.T, call string, e, want api.Errno) {
	t.Helper()
	if e != want {
		t.Errorf("%s: %d, not %d", call, int(e), int(want))
	}
}

// reads asks whether Read answers that.
func reads(t *testing.T, d *disk.Disk, want api.Label, f api.Errno) {
	t.Helper()
	if l, e := label.Read(d); l != want || e != f {
		t.Errorf("Read: %v, %d, not %v, %d", l, int(e), want, int(f))
	}
}

// nexts asks whether Next answers that.
func nexts(t *testing.T, d *disk.Disk, at, n int, f api.Errno) {
	t.Helper()
	if i, m, e := label.Next(d); i != at || m != n || e != f {
		t.Errorf("Next: %d, %d, %d, not %d, %d, %d", i, m, int(e), at, n, int(f))
	}
}

// turn tells a label like l, with another Turn.
func turn(l api.Label, n int) api.Label {
	l.Turn = n
	return l
}

// may tells labels that may be: each part at its ends, and between.
func may() []api.Label {
	var l []api.Label
	for _, n := range []int{1, 2, 63, 1 << 32, mostTurn - 1, mostTurn} {
		for _, ends := range [][2]int{{0, 0}, {0, 1}, {1, 1}, {2, 64}, {63, 64}, {64, 64}, {8191, 8192}, {1 << 31, 1<<31 + 64}, {0, mostHead}, {mostHead - 1, mostHead}, {mostHead, mostHead}} {
			for _, length := range []int{0, 1, 2, 63, 64, 239, 240, 399, label.MaxNote} {
				l = append(l, api.Label{Turn: n, Tail: ends[0], Head: ends[1], Note: mixed(uint32(length), length)})
			}
		}
	}
	return l
}

// mayNot tells labels of which each has one thing wrong.
func mayNot() []api.Label {
	var l []api.Label
	for _, n := range []int{0, -1, -mostTurn, mostTurn + 1, math.MaxInt, math.MinInt} {
		l = append(l, api.Label{Turn: n, Tail: 1, Head: 2, Note: "a"})
	}
	return append(l, wrongParts()...)
}

// wrongParts tells labels that may not be, whatever their Turn.
func wrongParts() []api.Label {
	return []api.Label{
		{Turn: 1, Tail: -1}, {Turn: 1, Tail: -1, Head: 5}, {Turn: 1, Tail: math.MinInt}, {Turn: 1, Tail: -2, Head: -1}, {Turn: 1, Tail: -1, Head: -1},
		{Turn: 1, Tail: 1}, {Turn: 1, Tail: 65, Head: 64}, {Turn: 1, Head: -1}, {Turn: 1, Tail: mostHead, Head: mostHead - 1}, {Turn: 1, Tail: math.MaxInt},
		{Turn: 1, Head: mostHead + 1}, {Turn: 1, Tail: mostHead + 1, Head: mostHead + 1}, {Turn: 1, Tail: 1, Head: math.MaxInt},
		{Turn: 1, Note: mixed(1, label.MaxNote+1)}, {Turn: 1, Note: mixed(1, 490)}, {Turn: 1, Note: mixed(1, 70000)},
	}
}

// P6.1: each label that may be has its bytes, and is parsed of them and of its Turn.
func TestBytes(t *testing.T) {
	if label.MaxNote != 400 {
		t.Errorf("MaxNote: %d", label.MaxNote)
	}
	for _, l := range may() {
		s, e := label.Bytes(l)
		if s != laid(l.Tail, l.Head, l.Note) || e != api.OK {
			t.Errorf("Bytes(%v): %x, %d", l, s, int(e))
		}
		if m, e := label.Parse(l.Turn, s); m != l || e != api.OK {
			t.Errorf("Parse: %v, %d, not %v", m, int(e), l)
		}
	}
}

// P6.1: what may not be has no bytes.
func TestBytesRefuses(t *testing.T) {
	for _, l := range mayNot() {
		if s, e := label.Bytes(l); s != "" || e != api.ErrArg {
			t.Errorf("Bytes(%d, %d, %d, %d bytes): %x, %d", l.Turn, l.Tail, l.Head, len(l.Note), s, int(e))
		}
	}
}

// unformed asks whether there is no label of a Turn and of bytes.
func unformed(t *testing.T, n int, s string) {
	t.Helper()
	if l, e := label.Parse(n, s); l != (api.Label{}) || e != api.ErrForm {
		t.Errorf("Parse(%d, %.30x ..): %v, %d", n, s, l, int(e))
	}
}

// P6.1: what may not be is not parsed, though its bytes have the form.
func TestParseRefuses(t *testing.T) {
	for _, l := range mayNot() {
		unformed(t, l.Turn, laid(l.Tail, l.Head, l.Note))
	}
}

// P6.1: bytes that end too early, that go on, or that have another form, are no label's.
func TestParseForm(t *testing.T) {
	for _, l := range []api.Label{{}, {Head: 1}, {Tail: 2, Head: 64, Note: "ab"}, {Tail: 1 << 31, Head: mostHead, Note: mixed(1, 400)}} {
		s := laid(l.Tail, l.Head, l.Note)
		for i := range s {
			unformed(t, 1, s[:i])
		}
		for _, more := range []string{"\x00", "a", s, mixed(2, 100)} {
			unformed(t, 1, s+more)
		}
	}
	for _, s := range []string{
		"\x80\x00\x02\x00", "\x00\x82\x00\x00", "\x00\x02\x80\x00", // zeros behind
		"\x00\x00\x01", "\x00\x00\x03ab", // a length below 0
		"\x00\x00\x04a", "\x00\x00\x02ab", // a note that is longer, or shorter, than it says
		strings.Repeat("\xff", 20), "\x00" + strings.Repeat("\xff", 9) + "\x02\x00", "\x00\x00" + strings.Repeat("\xff", 9) + "\x01",
	} {
		unformed(t, 1, s)
	}
}

// P6.1: whatever byte is changed, what is parsed has just these bytes.
func TestParseOneForm(t *testing.T) {
	parsed := 0
	for _, s := range []string{laid(0, 0, ""), laid(2, 64, "ab"), laid(8191, mostHead, mixed(1, 70))} {
		for i := range s {
			for with := range 256 {
				x := []byte(s)
				x[i] = byte(with)
				l, e := label.Parse(7, string(x))
				if e != api.OK {
					unformed(t, 7, string(x))
					continue
				}
				parsed++
				if again, e := label.Bytes(l); again != string(x) || e != api.OK || l.Turn != 7 {
					t.Errorf("Parse(7, %x): %v, of which the bytes are %x, %d", x, l, again, int(e))
				}
			}
		}
	}
	if parsed < 1000 {
		t.Errorf("only %d were parsed", parsed)
	}
}

// stand is a block, what label it is (a Turn of 0: none), and the numbers of its halves.
type stand struct {
	what        string
	b           string
	l           api.Label
	front, back int
}

// stands tells blocks of all kinds.
func stands() []stand {
	three := api.Label{Turn: 3, Tail: 1, Head: 2, Note: "three"}
	four := api.Label{Turn: 4, Tail: 2, Head: 2, Note: mixed(4, 400)}
	alike := api.Label{Turn: 4, Tail: 5, Head: 6}
	ends := []api.Label{{Turn: 1}, {Turn: mostTurn - 1, Note: "last but one"}, {Turn: mostTurn, Head: mostHead}}
	l := []stand{
		{"zeros", zeros, api.Label{}, 0, 0},
		{"a label", block(three), three, 3, 3},
		{"a later label", block(four), four, 4, 4},
		{"another one of its Turn", block(alike), alike, 4, 4},
		{"one of 1", block(ends[0]), ends[0], 1, 1},
		{"the last one but one", block(ends[1]), ends[1], mostTurn - 1, mostTurn - 1},
		{"the last one", block(ends[2]), ends[2], mostTurn, mostTurn},
		{"a front alone", block(four)[:256] + zeros[256:], api.Label{}, 4, 0},
		{"a back alone", zeros[:256] + block(four)[256:], api.Label{}, 0, 4},
		{"torn", block(turn(four, 9))[:256] + block(three)[256:], api.Label{}, 9, 3},
		{"torn, with a right sum", sealed(5, 12, laid(0, 0, "")), api.Label{}, 5, 12},
		{"halves of one Turn", block(four)[:256] + block(turn(three, 4))[256:], api.Label{}, 4, 4},
		{"rot", block(four)[:300] + "\x01" + block(four)[301:], api.Label{}, 4, 4},
		{"one bit", zeros[:511] + "\x01", api.Label{}, 0, 0},
		{"letters", strings.Repeat("a", 512), api.Label{}, 0x6161616161616161, 0x6161616161616161},
		{"ones", strings.Repeat("\xff", 512), api.Label{}, -1, -1},
		{"an odd half", sealed(-1, 20, ""), api.Label{}, -1, 20},
		{"a half of the last number", sealed(mostTurn, 2, ""), api.Label{}, mostTurn, 2},
		{"a half below it", sealed(2, mostTurn-1, ""), api.Label{}, 2, mostTurn - 1},
		{"a half above it", sealed(mostTurn+1, math.MinInt, ""), api.Label{}, mostTurn + 1, math.MinInt},
		{"a label's bytes with a Turn that may not be", sealed(0, 0, laid(0, 1, "")), api.Label{}, 0, 0},
		{"another one", sealed(mostTurn+1, mostTurn+1, laid(0, 1, "")), api.Label{}, mostTurn + 1, mostTurn + 1},
		{"another one below 0", sealed(-5, -5, laid(0, 1, "")), api.Label{}, -5, -5},
	}
	for _, s := range []string{"", "ab", laid(0, 0, "") + "\x00", laid(2, 64, "ab")[1:], "\x80\x00\x02\x00"} {
		l = append(l, stand{"sealed, but no label", sealed(8, 8, s), api.Label{}, 8, 8})
	}
	for _, x := range wrongParts() {
		if s := laid(x.Tail, x.Head, x.Note); len(s) <= 490 {
			l = append(l, stand{"a label that may not be", sealed(8, 8, s), api.Label{}, 8, 8})
		}
	}
	return l
}

// told tells what Read and Next are to answer of two blocks, by the document's words.
func told(x, y stand) (l api.Label, at, n int, e api.Errno) {
	switch {
	case x.l.Turn > 0 && x.l.Turn >= y.l.Turn:
		l, at = x.l, 1
	case y.l.Turn > 0:
		l, at = y.l, 0
	case x.b == zeros || y.b == zeros:
		e = api.ErrNone
	default:
		return api.Label{}, 0, 0, api.ErrRot
	}
	greatest := -1
	for _, m := range []int{x.front, x.back, y.front, y.back} {
		if m >= 0 && m < mostTurn && m > greatest {
			greatest = m
		}
	}
	n = 1
	if greatest >= 0 {
		n = greatest + 1
	}
	return l, at, n, e
}

// P6.2 to P6.4: whatever stands in both blocks, what is read, which is next, and what is written.
func TestStands(t *testing.T) {
	written := api.Label{Turn: -9, Tail: 3, Head: 30, Note: mixed(30, 300)}
	other := mixed(1, 512)
	for _, x := range stands() {
		for _, y := range stands() {
			d := made(t, x.b, y.b, other, other, other)
			l, at, n, e := told(x, y)
			reads(t, d, l, e)
			want := [2]string{x.b, y.b}
			if e == api.ErrRot {
				nexts(t, d, 0, 0, e)
				answers(t, "Write", label.Write(d, written), e)
			} else {
				nexts(t, d, at, n, api.OK)
				answers(t, "Write", label.Write(d, written), api.OK)
				want[at] = block(turn(written, n))
			}
			holds(t, d, want[0], want[1], other, other, other)
			if t.Failed() {
				t.Fatalf("block 0: %s, block 1: %s", x.what, y.what)
			}
		}
	}
}

// P6.3, the document's example.
func TestExample(t *testing.T) {
	d := made(t)
	nexts(t, d, 0, 1, api.OK)
	answers(t, "Write", label.Write(d, api.Label{}), api.OK)
	nexts(t, d, 1, 2, api.OK)
	answers(t, "Write", label.Write(d, api.Label{}), api.OK)
	nexts(t, d, 0, 3, api.OK)
}

// P6.2 to P6.4: the errors of a disk that is none, has no power, or too few blocks; they are told ahead of a label that may not be.
func TestDiskErrors(t *testing.T) {
	gone := made(t, block(api.Label{Turn: 1}))
	gone.Arm(0)
	gone.Flush()
	one, _ := disk.New(1)
	one.Write(0, block(api.Label{Turn: 1}))
	one.Flush()
	dark := one.Copy()
	dark.Arm(0)
	dark.Flush()
	for _, c := range []struct {
		d *disk.Disk
		e api.Errno
	}{{nil, api.ErrNil}, {&disk.Disk{}, api.ErrNil}, {gone, api.ErrPower}, {one, api.ErrArg}, {dark, api.ErrPower}} {
		reads(t, c.d, api.Label{}, c.e)
		nexts(t, c.d, 0, 0, c.e)
		for _, l := range append(wrongParts(), api.Label{}) {
			answers(t, "Write", label.Write(c.d, l), c.e)
		}
	}
	holds(t, one, block(api.Label{Turn: 1}))
	two, _ := disk.New(2)
	answers(t, "Write to two blocks", label.Write(two, api.Label{Note: "two"}), api.OK)
	reads(t, two, api.Label{Turn: 1, Note: "two"}, api.OK)
}

// P6.4: a label that may not be is refused, and nothing is written, nor flushed; what Turn it has is not asked.
func TestWriteRefuses(t *testing.T) {
	d := made(t, block(api.Label{Turn: 1, Note: "one"}))
	rot := made(t, mixed(1, 512), mixed(2, 512))
	d.Write(4, mixed(4, 512))
	d.Arm(2)
	for _, l := range wrongParts() {
		answers(t, "Write", label.Write(d, l), api.ErrArg)
		answers(t, "Write to rot", label.Write(rot, l), api.ErrRot)
	}
	if d.Loose() != 1 {
		t.Errorf("Loose: %d", d.Loose())
	}
	reads(t, d, api.Label{Turn: 1, Note: "one"}, api.OK)
	answers(t, "Write", label.Write(d, api.Label{Turn: math.MinInt, Note: "two"}), api.OK)
	holds(t, d, block(api.Label{Turn: 1, Note: "one"}), block(api.Label{Turn: 2, Note: "two"}), zeros, zeros, mixed(4, 512))
	answers(t, "the disk's Flush", d.Flush(), api.ErrPower)
}

// P6.4: a label may have all that may be, and is read as it was; its Turn alone is the number of Next.
func TestWriteBack(t *testing.T) {
	d := made(t)
	want := []string{zeros, zeros}
	for i, l := range may() {
		answers(t, "Write", label.Write(d, l), api.OK)
		reads(t, d, turn(l, i+1), api.OK)
		want[i%2] = block(turn(l, i+1))
		holds(t, d, want...)
	}
}

// P6.3 and P6.4: numbers end at 2^62, which is not counted on from; of labels with one number block 0's is read.
func TestLastTurn(t *testing.T) {
	d := made(t, block(api.Label{Turn: mostTurn - 1}))
	nexts(t, d, 1, mostTurn, api.OK)
	answers(t, "Write", label.Write(d, api.Label{Note: "last"}), api.OK)
	reads(t, d, api.Label{Turn: mostTurn, Note: "last"}, api.OK)
	nexts(t, d, 0, mostTurn, api.OK)
	answers(t, "Write", label.Write(d, api.Label{Note: "last again"}), api.OK)
	reads(t, d, api.Label{Turn: mostTurn, Note: "last again"}, api.OK)
	nexts(t, d, 1, 1, api.OK)
	holds(t, d, block(api.Label{Turn: mostTurn, Note: "last again"}), block(api.Label{Turn: mostTurn, Note: "last"}))
}

// fall is how a Write ends: how many steps the disk does, and what becomes of what is loose then.
type fall struct{ steps, fate int }

// falls tells all of them that are unlike; the first two are of a Write that is done.
func falls() []fall {
	return []fall{{2, 0}, {2, 1}, {0, 1}, {1, 0}, {1, 1}, {1, 2}, {1, 3}, {1, 4}}
}

// attempt writes a label as f says, lets the disk crash, and tells which label is to be there, if ahead was there.
func attempt(t *testing.T, d *disk.Disk, f fall, l, ahead api.Label) api.Label {
	t.Helper()
	_, n, e := label.Next(d)
	answers(t, "Next", e, api.OK)
	want := api.OK
	if f.steps < 2 {
		want = api.ErrPower
	}
	d.Arm(f.steps)
	answers(t, "Write", label.Write(d, l), want)
	d.Arm(-1)
	if want == api.OK {
		reads(t, d, turn(l, n), api.OK)
	}
	d.Crash([]int{f.fate})
	if want == api.OK || f.steps == 1 && f.fate == 1 {
		return turn(l, n)
	}
	return ahead
}

// P6.5: however several writes end, one after the other, what was written is read, and what was written ahead where that was not flushed.
func TestTurns(t *testing.T) {
	texts := []string{"", "b", mixed(1, 300), mixed(2, 300), mixed(3, 400)}
	var each func(d *disk.Disk, ahead api.Label, deep int)
	each = func(d *disk.Disk, ahead api.Label, deep int) {
		if deep == len(texts) || t.Failed() {
			return
		}
		for i, f := range falls() {
			c := d.Copy()
			now := attempt(t, c, f, api.Label{Tail: i, Head: deep + i, Note: texts[deep]}, ahead)
			want := api.OK
			if now == (api.Label{}) {
				want = api.ErrNone
			}
			reads(t, c, now, want)
			each(c, now, deep+1)
		}
	}
	each(made(t), api.Label{}, 0)
}

// P6.5: a number is never written again over a half that has it, so that halves of two writes are no label.
func TestTornTurns(t *testing.T) {
	for _, fates := range [][]int{{2, 3}, {3, 2}, {2, 2, 3}, {3, 3, 2}, {2, 3, 2, 3}} {
		d := made(t)
		answers(t, "Write", label.Write(d, api.Label{Note: "one"}), api.OK)
		for i, fate := range fates {
			nexts(t, d, 1, 2+i, api.OK)
			if now := attempt(t, d, fall{1, fate}, api.Label{Head: i}, api.Label{Turn: 1, Note: "one"}); now.Turn != 1 {
				t.Errorf("the label is %v", now)
			}
			reads(t, d, api.Label{Turn: 1, Note: "one"}, api.OK)
		}
		nexts(t, d, 1, 2+len(fates), api.OK)
		answers(t, "Write", label.Write(d, api.Label{Note: "two"}), api.OK)
		reads(t, d, api.Label{Turn: 2 + len(fates), Note: "two"}, api.OK)
	}
}

// P6.4 and P6.5: with a label all that was loose is flushed; where the power goes nothing of it is.
func TestWriteFlushes(t *testing.T) {
	one := block(api.Label{Turn: 1})
	for _, f := range falls() {
		d := made(t, one)
		d.Write(4, mixed(4, 512))
		if now := attempt(t, d, fall{f.steps, 0}, api.Label{Note: "two"}, api.Label{Turn: 1}); f.steps < 2 {
			holds(t, d, one, zeros, zeros, zeros, zeros)
		} else {
			holds(t, d, one, block(now), zeros, zeros, mixed(4, 512))
		}
	}
}
