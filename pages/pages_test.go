package pages_test

import (
	"encoding/binary"
	"hash/crc32"
	"math"
	"slices"
	"strings"
	"testing"

	"decretal/api"
	"decretal/disk"
	"decretal/label"
	"decretal/pages"
)

const (
	ring     = 64
	least    = 98
	pageSize = 480
	mostNote = 400
	mostHead = 1 << 50
)

var zeros = strings.Repeat("\x00", 512)

// full tells the page of a text.
func full(s string) string { return s + zeros[:pageSize-len(s)] }

// atHome tells the block at home of the page of a text.
func atHome(s string) string { return s + zeros[:512-len(s)] }

// mixed tells so many bytes that look like nothing in particular, and are the same each time.
func mixed(seed uint32, length int) string {
	b := make([]byte, length)
	for i := range b {
		seed = seed*1664525 + 1013904223
		b[i] = byte(seed >> 24)
	}
	return string(b)
}

// dice tells a number below most that hangs on all of these, and is the same each time.
func dice(most int, seeds ...int) int {
	h := uint32(1)
	for _, n := range seeds {
		h = (h ^ uint32(n)) * 0x85ebca6b
		h = (h ^ h>>13) * 0xc2b2ae35
		h ^= h >> 16
	}
	return int(h>>1) % most
}

// sealed tells a sealed block by the document's words, apart from the way that the program goes.
func sealed(n int, s string) string {
	b := make([]byte, 508)
	binary.BigEndian.PutUint64(b, uint64(n))
	binary.BigEndian.PutUint16(b[8:], uint16(len(s)))
	cut := min(len(s), 246)
	copy(b[10:], s[:cut])
	binary.BigEndian.PutUint64(b[256:], uint64(n))
	copy(b[264:], s[cut:])
	sum := crc32.Checksum(b, crc32.MakeTable(crc32.Castagnoli))
	return string(binary.BigEndian.AppendUint32(b, sum))
}

// record tells the block of the record of a place.
func record(place, page int, s string) string {
	return sealed(place+1, string(binary.BigEndian.AppendUint32(nil, uint32(page)))+s)
}

// labelled tells the block of a label.
func labelled(turn, tail, head int, note string) string {
	b := binary.AppendVarint(nil, int64(tail))
	b = binary.AppendVarint(b, int64(head))
	b = binary.AppendVarint(b, int64(len(note)))
	return sealed(turn, string(b)+note)
}

// made tells a new disk.
func made(t *testing.T, n int) *disk.Disk {
	t.Helper()
	d, e := disk.New(n)
	if e != api.OK {
		t.Fatal(int(e))
	}
	return d
}

// laid tells a disk of so many blocks, some of which are these.
func laid(t *testing.T, n int, blocks map[int]string) *disk.Disk {
	t.Helper()
	d := made(t, n)
	for i, b := range blocks {
		answers(t, "the disk's Write", d.Write(i, b), api.OK)
	}
	answers(t, "the disk's Flush", d.Flush(), api.OK)
	return d
}

// holds asks whether a disk's blocks are these, and all others zeros, and so many writes are loose.
func holds(t *testing.T, d *disk.Disk, loose int, blocks map[int]string) {
	t.Helper()
	for i := range d.Len() {
		want, ok := blocks[i]
		if !ok {
			want = zeros
		}
		if s, e := d.Read(i); s != want || e != api.OK {
			t.Errorf("the block %d: %d, or not as it should be: %.40q", i, int(e), s)
		}
	}
	if n := d.Loose(); n != loose {
		t.Errorf("%d writes are loose, not %d", n, loose)
	}
}

// alike asks whether two disks tell the same, and have as many loose writes.
func alike(t *testing.T, d, f *disk.Disk) {
	t.Helper()
	if d.Loose() != f.Loose() {
		t.Errorf("%d writes are loose, not %d", d.Loose(), f.Loose())
	}
	for i := range f.Len() {
		s, e := d.Read(i)
		if r, g := f.Read(i); s != r || e != g {
			t.Errorf("the block %d: %.40q, %d, not %.40q, %d", i, s, int(e), r, int(g))
		}
	}
}

// answers asks whether a call's error is that one.
func answers(t *testing.T, call string, e, want api.Errno) {
	t.Helper()
	if e != want {
		t.Errorf("%s: %d, not %d", call, int(e), int(want))
	}
}

// opened tells pages that must be.
func opened(t *testing.T, d *disk.Disk) *pages.Pages {
	t.Helper()
	p, e := pages.Open(d)
	if p == nil || e != api.OK {
		t.Fatalf("Open: %d", int(e))
	}
	return p
}

// refuses asks whether Open answers that error, and no pages.
func refuses(t *testing.T, d *disk.Disk, want api.Errno) {
	t.Helper()
	if p, e := pages.Open(d); p != nil || e != want {
		t.Errorf("Open: %d, not %d", int(e), int(want))
	}
}

// state is what pages tell: those that are not zeros, and the note.
type state struct {
	pages map[int]string
	note  string
}

// of tells a state.
func of(note string, l ...api.Write) state {
	s := state{map[int]string{}, note}
	for _, w := range l {
		s.pages[w.Page] = w.Data
	}
	return s
}

// with tells a state in which these pages are turned, too.
func (s state) with(l []api.Write, note string) state {
	next := state{map[int]string{}, note}
	for i, text := range s.pages {
		next.pages[i] = text
	}
	for _, w := range l {
		next.pages[w.Page] = w.Data
	}
	return next
}

// page tells a page of it.
func (s state) page(i int) string { return full(s.pages[i]) }

// told tells whether pages tell just that.
func told(p *pages.Pages, want state) bool {
	for i := range p.Len() {
		if s, e := p.Read(i); s != want.page(i) || e != api.OK {
			return false
		}
	}
	return p.Note() == want.note
}

// is asks whether pages tell just that, and so many of them are dirty.
func is(t *testing.T, p *pages.Pages, pending int, want state) {
	t.Helper()
	for i := range p.Len() {
		if s, e := p.Read(i); s != want.page(i) || e != api.OK {
			t.Errorf("the page %d: %.20q, %d, not %.20q", i, s, int(e), want.page(i))
		}
	}
	for _, i := range []int{-1, math.MinInt, p.Len(), p.Len() + 1, math.MaxInt} {
		if s, e := p.Read(i); s != "" || e != api.ErrArg {
			t.Errorf("Read(%d): %.20q, %d", i, s, int(e))
		}
	}
	if p.Note() != want.note || p.Pending() != pending {
		t.Errorf("Note %.20q, Pending %d, not %.20q, %d", p.Note(), p.Pending(), want.note, pending)
	}
}

// dark takes a disk's power.
func dark(d *disk.Disk) {
	d.Arm(0)
	d.Flush()
}

// some tells so many pages from one on, each with another text.
func some(from, count int) []api.Write {
	var l []api.Write
	for i := range count {
		l = append(l, api.Write{Page: from + i, Data: mixed(uint32(from+i), (from+i)*31%(pageSize+1))})
	}
	return l
}

// The document's example.
func TestExample(t *testing.T) {
	for _, sync := range []bool{false, true} {
		d := made(t, least)
		p := opened(t, d)
		if p.Len() != 32 {
			t.Errorf("Len: %d", p.Len())
		}
		l, want := []api.Write{{Page: 5, Data: "x"}}, of("")
		answers(t, "Commit", p.Commit(l, "n"), api.OK)
		if sync {
			answers(t, "Sync", p.Sync(), api.OK)
			want = of("n", l...)
		}
		d.Crash(nil)
		is(t, opened(t, d), len(want.pages), want)
	}
}

// No pages, and such that Open did not make, have nothing.
func TestNoPages(t *testing.T) {
	var none *pages.Pages
	for _, p := range []*pages.Pages{none, {}, new(pages.Pages)} {
		if p.Len() != 0 || p.Note() != "" || p.Pending() != 0 {
			t.Errorf("Len %d, Note %q, Pending %d", p.Len(), p.Note(), p.Pending())
		}
		for _, i := range []int{-1, 0, 1} {
			if s, e := p.Read(i); s != "" || e != api.ErrNil {
				t.Errorf("Read(%d): %q, %d", i, s, int(e))
			}
		}
		answers(t, "Commit", p.Commit(nil, ""), api.ErrNil)
		answers(t, "Commit", p.Commit([]api.Write{{Page: -1}}, mixed(1, 500)), api.ErrNil)
		answers(t, "Sync", p.Sync(), api.ErrNil)
		answers(t, "Checkpoint", p.Checkpoint(), api.ErrNil)
		if p.Len() != 0 || p.Note() != "" || p.Pending() != 0 {
			t.Error("it has become something")
		}
	}
}

// P8.1: a disk must be there, with its power, and with blocks enough, in that order; nothing is written.
func TestOpenRefuses(t *testing.T) {
	if pages.Ring != ring || pages.Least != least {
		t.Errorf("Ring %d, Least %d", pages.Ring, pages.Least)
	}
	refuses(t, nil, api.ErrNil)
	refuses(t, &disk.Disk{}, api.ErrNil)
	rot := strings.Repeat("x", 512)
	for _, n := range []int{1, 2, 66, 67, least - 1, least, 4096} {
		for _, b := range []string{zeros, rot, labelled(1, 0, 0, "")} {
			d := laid(t, n, map[int]string{0: b})
			f := d.Copy()
			if n < least {
				refuses(t, d, api.ErrArg)
				alike(t, d, f)
			}
			dark(d)
			refuses(t, d, api.ErrPower)
			d.Crash(nil)
			alike(t, d, f)
		}
	}
}

// P8.1: where both blocks of labels are none, and neither is empty, there are no pages.
func TestOpenNoLabel(t *testing.T) {
	rot := strings.Repeat("x", 512)
	whole := labelled(2, 0, 0, "n")
	for _, pair := range [][2]string{
		{rot, rot}, {whole[:511] + "!", rot}, {rot, labelled(1, 2, 1, "")}, {labelled(1, 0, 0, mixed(1, mostNote+1)), rot},
		{sealed(1, "abc"), sealed(2, "abc")}, {whole[:256] + labelled(4, 0, 0, "")[256:], rot},
	} {
		blocks := map[int]string{0: pair[0], 1: pair[1]}
		d := laid(t, least, blocks)
		refuses(t, d, api.ErrRot)
		holds(t, d, 0, blocks)
		d.Write(1, whole)
		is(t, opened(t, d), 0, of("n"))
	}
}

// P8.1: where there is no label, but an empty block, one of zeros and an empty note is written, and flushed.
func TestOpenWritesLabel(t *testing.T) {
	torn := labelled(6, 0, 5, "n")[:256] + labelled(4, 0, 3, "n")[256:]
	for _, c := range []struct {
		before map[int]string
		turn   int
	}{
		{map[int]string{}, 1}, {map[int]string{0: torn}, 7}, {map[int]string{1: torn}, 7}, {map[int]string{1: labelled(1, 3, 2, "")}, 2},
	} {
		after := map[int]string{1: c.before[1], 0: labelled(c.turn, 0, 0, "")}
		if after[1] == "" {
			after[1] = zeros
		}
		for steps := range 3 {
			d := laid(t, least+2, c.before)
			d.Arm(steps)
			if steps < 2 {
				refuses(t, d, api.ErrPower)
				d.Crash(nil)
				holds(t, d, 0, c.before)
			}
			d.Arm(2)
			p := opened(t, d)
			if p.Len() != 34 {
				t.Errorf("Len: %d", p.Len())
			}
			is(t, p, 0, of(""))
			holds(t, d, 0, after)
			is(t, opened(t, d), 0, of(""))
		}
	}
}

// P8.1 and P8.2: there is a page a block behind the ring.
func TestLen(t *testing.T) {
	for _, n := range []int{98, 99, 100, 160, 4095, 4096} {
		p := opened(t, made(t, n))
		if p.Len() != n-66 {
			t.Errorf("of %d blocks: %d pages", n, p.Len())
		}
		is(t, p, 0, of(""))
		last := n - 67
		answers(t, "Commit", p.Commit([]api.Write{{Page: last, Data: "z"}}, ""), api.OK)
		is(t, p, 1, of("", api.Write{Page: last, Data: "z"}))
	}
}

// P8.1: each page is as the last of its records says, or as it is at home, wherever the log begins; nothing is written.
func TestOpenRecords(t *testing.T) {
	home := strings.Repeat("h", pageSize) + strings.Repeat("?", 32)
	texts := []string{"", "a", mixed(1, pageSize), mixed(2, 300), "b"}
	for _, tail := range []int{0, 1, 59, 63, 64, 1000, mostHead - 5} {
		for count := range len(texts) + 1 {
			note := mixed(uint32(count), count*100%(mostNote+1))
			blocks := map[int]string{1: labelled(8, tail, tail+count, note), 66: home, 69: home, 97: home}
			want := of(note, api.Write{Page: 0, Data: home[:pageSize]}, api.Write{Page: 3, Data: home[:pageSize]}, api.Write{Page: 31, Data: home[:pageSize]})
			numbers := []int{3, 31, 7, 3, 7}
			for i, s := range texts[:count] {
				blocks[2+(tail+i)%ring] = record(tail+i, numbers[i], s)
				want.pages[numbers[i]] = s
			}
			d := laid(t, least, blocks)
			d.Arm(0)
			is(t, opened(t, d), min(count, 3), want)
			d.Arm(-1)
			holds(t, d, 0, blocks)
		}
	}
}

// P8.1: a log of all blocks of the ring is read; what no log may be is rot.
func TestOpenEnds(t *testing.T) {
	for _, tail := range []int{0, 5, 64, 70} {
		blocks := map[int]string{0: labelled(1, tail, tail+ring, "n")}
		want := of("n")
		for i := range ring {
			blocks[2+(tail+i)%ring] = record(tail+i, i%20, mixed(uint32(i), i))
			want.pages[i%20] = mixed(uint32(i), i)
		}
		is(t, opened(t, laid(t, least, blocks)), 20, want)
		blocks[0] = labelled(1, tail, tail+ring+1, "n")
		refuses(t, laid(t, least, blocks), api.ErrRot)
		blocks[0] = labelled(1, tail, mostHead, "n")
		refuses(t, laid(t, least, blocks), api.ErrRot)
	}
}

// P8.1: what stands where a record is to be, and is none, or no page's, is rot.
func TestOpenRot(t *testing.T) {
	number := func(n uint32) string { return string(binary.BigEndian.AppendUint32(nil, n)) }
	right := map[int]string{0: labelled(1, 64, 67, "n"), 2: record(64, 1, "a"), 3: record(65, 2, "b"), 4: record(66, 1, "c")}
	is(t, opened(t, laid(t, least, right)), 2, of("n", api.Write{Page: 1, Data: "c"}, api.Write{Page: 2, Data: "b"}))
	for at := 2; at <= 4; at++ {
		place := at + 62
		for what, b := range map[string]string{
			"zeros":                     zeros,
			"a record of another round": record(place-ring, 1, "a"),
			"a record of another place": record(place+1, 1, "a"),
			"a torn record":             record(place, 1, "a")[:256] + record(place-ring, 1, "a")[256:],
			"no number":                 sealed(place+1, ""),
			"three bytes":               sealed(place+1, number(1)[:3]),
			"a page too far":            record(place, 32, "a"),
			"a page far away":           sealed(place+1, number(math.MaxUint32)+"a"),
			"a page in five bytes":      sealed(place+1, "\x00"+number(256*256)),
			"a byte too much":           record(place, 1, mixed(1, pageSize+1)),
			"as much as can be":         sealed(place+1, number(1)+mixed(1, 486)),
		} {
			d := laid(t, least, right)
			d.Write(at, b)
			f := d.Copy()
			refuses(t, d, api.ErrRot)
			alike(t, d, f)
			if t.Failed() {
				t.Fatalf("at the block %d: %s", at, what)
			}
		}
		d := laid(t, least, right)
		d.Write(at, sealed(place+1, number(31)))
		if s, e := opened(t, d).Read(31); s != full("") || e != api.OK {
			t.Errorf("the page of an empty text: %.20q, %d", s, int(e))
		}
	}
}

// P8.2: without power a page that is dirty is told, and no other one; which page there is is told, too.
func TestReadInTheDark(t *testing.T) {
	d := made(t, least)
	p := opened(t, d)
	answers(t, "Commit", p.Commit([]api.Write{{Page: 3, Data: "c"}, {Page: 31, Data: mixed(1, pageSize)}}, "n"), api.OK)
	dark(d)
	for _, c := range []struct {
		page int
		want string
		e    api.Errno
	}{{3, full("c"), api.OK}, {31, mixed(1, pageSize), api.OK}, {0, "", api.ErrPower}, {30, "", api.ErrPower}, {32, "", api.ErrArg}, {-1, "", api.ErrArg}} {
		if s, e := p.Read(c.page); s != c.want || e != c.e {
			t.Errorf("Read(%d): %.20q, %d", c.page, s, int(e))
		}
	}
	if p.Len() != 32 || p.Note() != "n" || p.Pending() != 2 {
		t.Errorf("Len %d, Note %q, Pending %d", p.Len(), p.Note(), p.Pending())
	}
	answers(t, "Sync", p.Sync(), api.ErrPower)
	answers(t, "Checkpoint", p.Checkpoint(), api.ErrPower)
	answers(t, "Commit of a page", p.Commit([]api.Write{{Page: 3}}, "m"), api.ErrPower)
	answers(t, "Commit of a page twice", p.Commit([]api.Write{{Page: 3}, {Page: 3}}, "m"), api.ErrArg)
	if s, e := p.Read(3); s != full("c") || e != api.OK || p.Note() != "n" || p.Pending() != 2 {
		t.Errorf("Read: %.20q, %d; Note %q, Pending %d", s, int(e), p.Note(), p.Pending())
	}
	answers(t, "Commit of a note", p.Commit(nil, "m"), api.OK)
	if p.Note() != "m" {
		t.Errorf("Note: %q", p.Note())
	}
}

// P8.2: a page that is not dirty is what stands at home now, the block's first 480 bytes.
func TestReadHome(t *testing.T) {
	d := made(t, least)
	p := opened(t, d)
	b := mixed(9, 512)
	d.Write(66, b)
	d.Write(97, b)
	is(t, p, 0, of("", api.Write{Page: 0, Data: b[:pageSize]}, api.Write{Page: 31, Data: b[:pageSize]}))
	answers(t, "Commit", p.Commit([]api.Write{{Page: 31, Data: "z"}}, ""), api.OK)
	is(t, p, 1, of("", api.Write{Page: 0, Data: b[:pageSize]}, api.Write{Page: 31, Data: "z"}))
}

// P8.3: what may not be is refused, ahead of what has no room, and turns nothing; what may be just so is taken.
func TestCommitRefuses(t *testing.T) {
	d := made(t, 200)
	p := opened(t, d)
	was := of("n", api.Write{Page: 1, Data: "a"})
	answers(t, "Commit", p.Commit([]api.Write{{Page: 1, Data: "a"}}, "n"), api.OK)
	f := d.Copy()
	d.Arm(0)
	long, tooLong := mixed(1, pageSize), mixed(1, pageSize+1)
	for i, c := range []struct {
		l    []api.Write
		note string
		e    api.Errno
	}{
		{[]api.Write{{Page: -1}}, "", api.ErrArg}, {[]api.Write{{Page: 134}}, "", api.ErrArg}, {[]api.Write{{Page: math.MinInt}}, "", api.ErrArg},
		{[]api.Write{{Page: math.MaxInt}}, "", api.ErrArg}, {[]api.Write{{Page: 1 << 32, Data: "a"}}, "", api.ErrArg},
		{[]api.Write{{Page: 2, Data: tooLong}}, "", api.ErrArg}, {[]api.Write{{Page: 2}, {Page: 3, Data: mixed(2, 70000)}}, "", api.ErrArg},
		{[]api.Write{{Page: 2, Data: long}, {Page: 2, Data: long}}, "", api.ErrArg}, {[]api.Write{{Page: 2}, {Page: 3}, {Page: 4}, {Page: 2, Data: "x"}}, "", api.ErrArg},
		{nil, mixed(3, mostNote+1), api.ErrArg}, {some(0, 3), mixed(3, 70000), api.ErrArg},
		{some(0, 65), "", api.ErrSpace}, {some(0, 134), mixed(3, mostNote), api.ErrSpace},
		{some(0, 135), "", api.ErrArg}, {append(some(0, 65), api.Write{Page: 0}), "", api.ErrArg}, {some(0, 65), mixed(3, mostNote+1), api.ErrArg},
		{append(some(0, 64), api.Write{Page: 64, Data: tooLong}), "", api.ErrArg}, {make([]api.Write, 100000), "", api.ErrArg},
	} {
		answers(t, "Commit", p.Commit(c.l, c.note), c.e)
		is(t, p, 1, was)
		if t.Failed() {
			t.Fatalf("at the case %d", i)
		}
	}
	d.Arm(-1)
	alike(t, d, f)
	l := []api.Write{{Page: 0, Data: long}, {Page: 133, Data: long}, {Page: 1}}
	note := mixed(3, mostNote)
	answers(t, "Commit", p.Commit(l, note), api.OK)
	is(t, p, 3, was.with(l, note))
}

// P8.3: the records stand in the log in the order in which they were handed in, loose; nothing else is written.
func TestCommitWrites(t *testing.T) {
	d := made(t, least)
	p := opened(t, d)
	answers(t, "Commit", p.Commit([]api.Write{{Page: 9, Data: "i"}, {Page: 2, Data: mixed(1, pageSize)}, {Page: 5}}, "n"), api.OK)
	answers(t, "Commit", p.Commit(nil, "m"), api.OK)
	answers(t, "Commit", p.Commit([]api.Write{{Page: 2, Data: "b"}, {Page: 31, Data: "z"}}, "o"), api.OK)
	is(t, p, 4, of("o", api.Write{Page: 9, Data: "i"}, api.Write{Page: 2, Data: "b"}, api.Write{Page: 31, Data: "z"}))
	holds(t, d, 5, map[int]string{
		0: labelled(1, 0, 0, ""),
		2: record(0, 9, "i"), 3: record(1, 2, mixed(1, pageSize)), 4: record(2, 5, ""), 5: record(3, 2, "b"), 6: record(4, 31, "z"),
	})
	d.Crash(nil)
	is(t, opened(t, d), 0, of(""))
}

// P8.3: where the power goes the pages are as they were, and what was ahead is written.
func TestCommitPower(t *testing.T) {
	for steps := range 4 {
		d := made(t, least)
		p := opened(t, d)
		first := []api.Write{{Page: 4, Data: "d"}}
		answers(t, "Commit", p.Commit(first, "n"), api.OK)
		answers(t, "Sync", p.Sync(), api.OK)
		l := []api.Write{{Page: 4, Data: "x"}, {Page: 5, Data: "y"}, {Page: 4 - 1, Data: "z"}}
		blocks := map[int]string{0: labelled(1, 0, 0, ""), 1: labelled(2, 0, 1, "n"), 2: record(0, 4, "d")}
		for i, w := range l[:steps] {
			blocks[3+i] = record(1+i, w.Page, w.Data)
		}
		d.Arm(steps)
		if steps == len(l) {
			answers(t, "Commit", p.Commit(l, "m"), api.OK)
			is(t, p, 3, of("n", first...).with(l, "m"))
			holds(t, d, 3, blocks)
			continue
		}
		answers(t, "Commit", p.Commit(l, "m"), api.ErrPower)
		if s, e := p.Read(4); s != full("d") || e != api.OK || p.Note() != "n" || p.Pending() != 1 {
			t.Errorf("%.20q, %d, Note %q, Pending %d", s, int(e), p.Note(), p.Pending())
		}
		d.Crash([]int{1, 1, 1})
		holds(t, d, 0, blocks)
		is(t, opened(t, d), 1, of("n", first...))
	}
}

// P8.3: Checkpoint is called where the log has no room, and only there.
func TestCommitCheckpoint(t *testing.T) {
	for _, c := range []struct{ ahead, more int }{{64, 0}, {64, 1}, {63, 1}, {63, 2}, {1, 63}, {1, 64}, {0, 64}, {40, 24}, {40, 25}, {64, 64}} {
		d := made(t, 200)
		p := opened(t, d)
		first, then := some(0, c.ahead), some(20, c.more)
		answers(t, "Commit", p.Commit(first, "n"), api.OK)
		was := of("n", first...)
		answers(t, "Commit", p.Commit(then, "m"), api.OK)
		now := was.with(then, "m")
		called := c.ahead+c.more > ring
		want, pending := api.Label{Turn: 1}, len(now.pages)
		if called {
			want, pending = api.Label{Turn: 3, Tail: c.ahead, Head: c.ahead, Note: "n"}, c.more
		}
		is(t, p, pending, now)
		if l, e := label.Read(d); l != want || e != api.OK {
			t.Errorf("%d and %d: the label is %v, not %v", c.ahead, c.more, l, want)
		}
		if called {
			d.Crash(nil)
			is(t, opened(t, d), 0, was)
		}
	}
}

// P8.3: where Checkpoint goes wrong its error is told, and the pages are as they were.
func TestCommitCheckpointGoesWrong(t *testing.T) {
	first, then := some(0, 60), some(30, 5)
	for steps := range 71 {
		d := made(t, 200)
		p := opened(t, d)
		answers(t, "Commit", p.Commit(first, "n"), api.OK)
		d.Arm(steps)
		// A flush, a label in two steps; 60 pages, a flush, a label in two steps; then the records.
		answers(t, "Commit", p.Commit(then, "m"), api.ErrPower)
		pending := 60
		if steps >= 66 {
			pending = 0
		}
		if p.Note() != "n" || p.Pending() != pending {
			t.Errorf("behind %d steps: Note %q, Pending %d", steps, p.Note(), p.Pending())
		}
		if s, e := p.Read(34); pending > 0 && (s != full(first[34].Data) || e != api.OK) {
			t.Errorf("behind %d steps: %.20q, %d", steps, s, int(e))
		}
		d.Crash(nil)
		want := of("n", first...)
		if steps < 3 {
			want, pending = of(""), 0
		}
		is(t, opened(t, d), pending, want)
	}
}

// P8.4: Sync makes sure of what was written, then of the label.
func TestSync(t *testing.T) {
	for steps := range 4 {
		d := made(t, least)
		p := opened(t, d)
		l := []api.Write{{Page: 7, Data: "g"}, {Page: 3, Data: "c"}}
		answers(t, "Commit", p.Commit(l, "n"), api.OK)
		d.Arm(steps)
		blocks := map[int]string{0: labelled(1, 0, 0, ""), 2: record(0, 7, "g"), 3: record(1, 3, "c")}
		if steps < 3 {
			answers(t, "Sync", p.Sync(), api.ErrPower)
			loose := []int{2, 0, 1}[steps]
			if d.Loose() != loose {
				t.Errorf("behind %d steps %d writes are loose, not %d", steps, d.Loose(), loose)
			}
			d.Crash([]int{1, 1})
			if steps == 2 {
				blocks[1] = labelled(2, 0, 2, "n")
			}
			holds(t, d, 0, blocks)
			continue
		}
		answers(t, "Sync", p.Sync(), api.OK)
		d.Arm(-1)
		blocks[1] = labelled(2, 0, 2, "n")
		holds(t, d, 0, blocks)
		is(t, p, 2, of("n", l...))
		answers(t, "Sync", p.Sync(), api.OK)
		blocks[0] = labelled(3, 0, 2, "n")
		holds(t, d, 0, blocks)
		is(t, p, 2, of("n", l...))
	}
}

// P8.4: Checkpoint brings the dirty pages home, by their numbers, each once, with zeros behind, and empties the log.
func TestCheckpoint(t *testing.T) {
	d := made(t, least)
	p := opened(t, d)
	was := strings.Repeat("h", 512)
	d.Write(66+9, was)
	d.Write(66+10, was)
	answers(t, "Commit", p.Commit([]api.Write{{Page: 31, Data: mixed(1, pageSize)}, {Page: 9, Data: "old"}, {Page: 0, Data: "a"}}, "n"), api.OK)
	answers(t, "Commit", p.Commit([]api.Write{{Page: 9, Data: "i"}, {Page: 11}}, "m"), api.OK)
	want := of("m", api.Write{Page: 31, Data: mixed(1, pageSize)}, api.Write{Page: 9, Data: "i"}, api.Write{Page: 0, Data: "a"}, api.Write{Page: 10, Data: was[:pageSize]})
	blocks := map[int]string{
		1: labelled(2, 0, 5, "m"), 2: record(0, 31, mixed(1, pageSize)), 3: record(1, 9, "old"), 4: record(2, 0, "a"), 5: record(3, 9, "i"), 6: record(4, 11, ""),
		66: atHome("a"), 75: atHome("i"), 76: was, 97: atHome(mixed(1, pageSize)),
	}
	is(t, p, 4, want)
	answers(t, "Checkpoint", p.Checkpoint(), api.OK)
	is(t, p, 0, want)
	blocks[0] = labelled(3, 5, 5, "m")
	holds(t, d, 0, blocks)
	is(t, opened(t, d), 0, want)
	// Of nothing it writes the labels alone; what is turned then goes on behind.
	answers(t, "Checkpoint", p.Checkpoint(), api.OK)
	answers(t, "Commit", p.Commit([]api.Write{{Page: 9, Data: "j"}}, "l"), api.OK)
	blocks[0], blocks[1], blocks[7] = labelled(5, 5, 5, "m"), labelled(4, 5, 5, "m"), record(5, 9, "j")
	holds(t, d, 1, blocks)
	is(t, p, 1, want.with([]api.Write{{Page: 9, Data: "j"}}, "l"))
}

// P8.4: where the power goes within a Checkpoint the pages are as they were, and the writes ahead are done, in that order.
func TestCheckpointPower(t *testing.T) {
	l := []api.Write{{Page: 30, Data: "y"}, {Page: 4, Data: "d"}, {Page: 12, Data: "l"}}
	byNumber := []api.Write{l[1], l[2], l[0]}
	for steps := range 9 {
		d := made(t, least)
		p := opened(t, d)
		answers(t, "Commit", p.Commit(l, "n"), api.OK)
		d.Arm(steps)
		answers(t, "Checkpoint", p.Checkpoint(), api.ErrPower)
		for _, w := range l {
			if s, e := p.Read(w.Page); s != full(w.Data) || e != api.OK {
				t.Errorf("behind %d steps: %.20q, %d", steps, s, int(e))
			}
		}
		if p.Pending() != 3 || p.Note() != "n" {
			t.Errorf("behind %d steps: Pending %d, Note %q", steps, p.Pending(), p.Note())
		}
		d.Crash([]int{1, 1, 1})
		blocks := map[int]string{0: labelled(1, 0, 0, ""), 2: record(0, 30, "y"), 3: record(1, 4, "d"), 4: record(2, 12, "l")}
		if steps >= 2 {
			blocks[1] = labelled(2, 0, 3, "n")
		}
		for _, w := range byNumber[:min(max(steps-3, 0), 3)] {
			blocks[66+w.Page] = atHome(w.Data)
		}
		if steps == 8 {
			blocks[0] = labelled(3, 3, 3, "n")
		}
		holds(t, d, 0, blocks)
	}
}

// P8.4: an error of a label's is told; the pages are as they were, and can be made sure of when the labels are right again.
func TestLabelGoesWrong(t *testing.T) {
	rot := strings.Repeat("x", 512)
	for _, call := range []func(*pages.Pages) api.Errno{(*pages.Pages).Sync, (*pages.Pages).Checkpoint} {
		d := made(t, least)
		p := opened(t, d)
		l := []api.Write{{Page: 7, Data: "g"}}
		answers(t, "Commit", p.Commit(l, "n"), api.OK)
		whole, _ := d.Read(0)
		d.Write(0, rot)
		d.Write(1, rot)
		answers(t, "behind rot", call(p), api.ErrRot)
		is(t, p, 1, of("n", l...))
		d.Write(0, whole)
		d.Write(1, zeros)
		answers(t, "behind no rot", call(p), api.OK)
		d.Crash(nil)
		if !told(opened(t, d), of("n", l...)) {
			t.Error("the pages are not as they were")
		}
	}
	// The greatest head that a label may have has been.
	blocks := map[int]string{0: labelled(1, mostHead, mostHead, "n")}
	d := laid(t, least, blocks)
	p := opened(t, d)
	answers(t, "Commit", p.Commit([]api.Write{{Page: 7, Data: "g"}}, "m"), api.OK)
	answers(t, "Sync", p.Sync(), api.ErrArg)
	answers(t, "Checkpoint", p.Checkpoint(), api.ErrArg)
	is(t, p, 1, of("m", api.Write{Page: 7, Data: "g"}))
	blocks[2+mostHead%ring] = record(mostHead, 7, "g")
	holds(t, d, 0, blocks)
	is(t, opened(t, d), 0, of("n"))
}

// play is what the document's words make of a disk, step by step, and of its pages, apart from the way that the package goes.
type play struct {
	d          *disk.Disk
	tail       int
	all, log   []api.Write // since the beginning, and since the last Checkpoint
	now        state
	sure, next state // at the last Sync that was answered with OK, and at the one that is on its way
}

func (m *play) head() int { return m.tail + len(m.log) }

func (m *play) sync() api.Errno {
	m.next = m.now
	if e := m.d.Flush(); e != api.OK {
		return e
	}
	if e := label.Write(m.d, api.Label{Tail: m.tail, Head: m.head(), Note: m.now.note}); e != api.OK {
		return e
	}
	m.sure = m.now
	return api.OK
}

func (m *play) pending() int {
	there := map[int]bool{}
	for _, w := range m.log {
		there[w.Page] = true
	}
	return len(there)
}

func (m *play) checkpoint() api.Errno {
	if e := m.sync(); e != api.OK {
		return e
	}
	for page := range m.d.Len() - 66 {
		if slices.ContainsFunc(m.log, func(w api.Write) bool { return w.Page == page }) {
			if e := m.d.Write(66+page, atHome(m.now.pages[page])); e != api.OK {
				return e
			}
		}
	}
	if e := m.d.Flush(); e != api.OK {
		return e
	}
	if e := label.Write(m.d, api.Label{Tail: m.head(), Head: m.head(), Note: m.now.note}); e != api.OK {
		return e
	}
	m.tail, m.log = m.head(), nil
	return api.OK
}

func (m *play) commit(l []api.Write, note string) api.Errno {
	if len(m.log)+len(l) > ring {
		if e := m.checkpoint(); e != api.OK {
			return e
		}
	}
	for i, w := range l {
		place := m.head() + i
		if e := m.d.Write(2+place%ring, record(place, w.Page, w.Data)); e != api.OK {
			return e
		}
	}
	m.all = append(m.all, l...)
	m.log = append(m.log, l...)
	m.now = m.now.with(l, note)
	return api.OK
}

// again makes it be as it was at one of two moments, with the records that the label tells of.
func (m *play) again(t *testing.T, sure bool) {
	t.Helper()
	m.now = m.next
	if sure {
		m.now = m.sure
	}
	m.sure, m.next = m.now, m.now
	l, e := label.Read(m.d)
	answers(t, "the label", e, api.OK)
	m.tail, m.log = l.Tail, m.all[l.Tail:l.Head:l.Head]
	m.all = m.all[:l.Head:l.Head]
}

// turns tells the writes of a step of a run: mostly few, now and then many.
func turns(seed, step, pages int) []api.Write {
	count := dice(5, seed, step, 1)
	if dice(3, seed, step, 2) == 0 {
		count = dice(min(pages, ring)+1, seed, step, 3)
	}
	first := dice(pages, seed, step, 4)
	var l []api.Write
	for i := range count {
		// 11 has no divisor in common with any count of pages that is used here: no page is there twice.
		page := (first + 11*i) % pages
		l = append(l, api.Write{Page: page, Data: mixed(uint32(step), dice(pageSize+1, seed, step, 5, i))})
	}
	return l
}

// step does one thing with pages and by the words, and asks whether both answer alike.
func step(t *testing.T, p *pages.Pages, m *play, seed, at int) api.Errno {
	t.Helper()
	var e, want api.Errno
	switch what := dice(10, seed, at, 0); {
	case what < 7:
		l, note := turns(seed, at, p.Len()), mixed(uint32(at), dice(9, seed, at, 6))
		e, want = p.Commit(l, note), m.commit(l, note)
	case what < 9:
		e, want = p.Sync(), m.sync()
	default:
		e, want = p.Checkpoint(), m.checkpoint()
	}
	answers(t, "a step", e, want)
	if p.Pending() != m.pending() || p.Note() != m.now.note {
		t.Errorf("Pending %d, Note %q, not %d, %q", p.Pending(), p.Note(), m.pending(), m.now.note)
	}
	return e
}

// begun tells new pages, and the same by the words.
func begun(t *testing.T, blocks int) (*disk.Disk, *pages.Pages, *play) {
	t.Helper()
	d := made(t, blocks)
	p := opened(t, d)
	return d, p, &play{d: d.Copy(), now: of(""), sure: of(""), next: of("")}
}

// P8.3, P8.4 and P8.6: whatever is done, the pages and the disk are as the words say; behind a Sync they are the same when they are opened again.
func TestRuns(t *testing.T) {
	for seed := range 12 {
		d, p, m := begun(t, []int{98, 100, 160}[seed%3])
		for i := range 70 {
			step(t, p, m, seed, i)
			alike(t, d, m.d)
			is(t, p, m.pending(), m.now)
			if i%7 == 6 {
				answers(t, "Sync", p.Sync(), m.sync())
				d.Arm(0)
				p = opened(t, d)
				d.Arm(-1)
				alike(t, d, m.d)
				is(t, p, m.pending(), m.now)
			}
			if t.Failed() {
				t.Fatalf("with the seed %d, at the step %d", seed, i)
			}
		}
		if m.head() < 3*ring {
			t.Fatalf("with the seed %d there were no more than %d records", seed, m.head())
		}
	}
}

// fates tells some ways in which so many loose writes can end.
func fates(seed, loose int) [][]int {
	l := [][]int{nil}
	for f := 1; f <= 3; f++ {
		l = append(l, slices.Repeat([]int{f}, loose))
	}
	for k := range 3 {
		var one []int
		for i := range loose {
			one = append(one, dice(4, seed, k, i))
		}
		l = append(l, one)
	}
	return l
}

// found asks whether pages behind a crash are as they were at one of two moments, open again as the same, and go on.
func found(t *testing.T, d *disk.Disk, sure, next state) {
	t.Helper()
	d.Arm(0)
	p := opened(t, d)
	d.Arm(-1)
	now := sure
	if !told(p, now) {
		now = next
	}
	is(t, p, p.Pending(), now)
	is(t, opened(t, d), p.Pending(), now)
	l := []api.Write{{Page: 30, Data: "go"}, {Page: 2, Data: "on"}}
	answers(t, "Commit", p.Commit(l, "again"), api.OK)
	answers(t, "Sync", p.Sync(), api.OK)
	answers(t, "Commit", p.Commit(l[:1], "lost"), api.OK)
	d.Crash([]int{2})
	is(t, opened(t, d), opened(t, d).Pending(), now.with(l, "again"))
}

// P8.5: at whatever step the power goes, and whatever becomes of the loose writes, the pages are as at the last Sync that was answered with OK, or at the one that was on its way.
func TestMoments(t *testing.T) {
	for seed := range 3 {
		for steps, ended := 0, false; !ended; steps++ {
			d, p, m := begun(t, least)
			d.Arm(steps)
			m.d.Arm(steps)
			ended = true
			for i := range 14 {
				if step(t, p, m, seed+100, i) != api.OK {
					ended = false
					break
				}
			}
			if d.Loose() != m.d.Loose() {
				t.Errorf("%d writes are loose, not %d", d.Loose(), m.d.Loose())
			}
			for _, how := range fates(steps, d.Loose()) {
				f, g := d.Copy(), m.d.Copy()
				f.Crash(how)
				g.Crash(how)
				alike(t, f, g)
				found(t, f, m.sure, m.next)
			}
			if t.Failed() {
				t.Fatalf("with the seed %d, behind %d steps", seed, steps)
			}
		}
	}
}

// P8.5: of crash behind crash, too, with what earlier ones left in the ring, at home, and in the labels.
func TestManyCrashes(t *testing.T) {
	for seed := range 8 {
		d, p, m := begun(t, least)
		for crash := range 40 {
			left := dice(150, seed, crash)
			d.Arm(left)
			m.d.Arm(left)
			for i := 0; step(t, p, m, seed, crash<<10+i) == api.OK; i++ {
			}
			how := fates(seed+crash, d.Loose())[crash%7]
			d.Crash(how)
			m.d.Crash(how)
			alike(t, d, m.d)
			p = opened(t, d)
			m.again(t, told(p, m.sure))
			is(t, p, m.pending(), m.now)
			if t.Failed() {
				t.Fatalf("with the seed %d, at the crash %d", seed, crash)
			}
		}
	}
}

// P8.6: opened again, the pages are the same, however often, and nothing is written.
func TestAgain(t *testing.T) {
	d := made(t, least)
	p := opened(t, d)
	l := some(0, 20)
	answers(t, "Commit", p.Commit(l, "n"), api.OK)
	answers(t, "Sync", p.Sync(), api.OK)
	for range 2 {
		want, f := of("n", l...), d.Copy()
		d.Arm(0)
		for range 3 {
			is(t, opened(t, d), p.Pending(), want)
		}
		d.Arm(-1)
		alike(t, d, f)
		answers(t, "Checkpoint", p.Checkpoint(), api.OK)
	}
}

// What was handed in is not changed, nor what stands behind its end; it may be used again.
func TestOwnMemory(t *testing.T) {
	p := opened(t, made(t, least))
	room := []api.Write{{Page: 1, Data: "a"}, {Page: 2, Data: "b"}, {Page: 3, Data: "c"}}
	kept := slices.Clone(room)
	answers(t, "Commit", p.Commit(room[:2], "n"), api.OK)
	answers(t, "Commit", p.Commit([]api.Write{{Page: 4, Data: "d"}}, "n"), api.OK)
	if !slices.Equal(room, kept) {
		t.Errorf("Commit has changed what was handed in: %v", room)
	}
	room[0], room[1] = api.Write{Page: 9, Data: "x"}, api.Write{Page: 2, Data: "y"}
	is(t, p, 3, of("n", api.Write{Page: 1, Data: "a"}, api.Write{Page: 2, Data: "b"}, api.Write{Page: 4, Data: "d"}))
	answers(t, "Checkpoint", p.Checkpoint(), api.OK)
	is(t, p, 0, of("n", api.Write{Page: 1, Data: "a"}, api.Write{Page: 2, Data: "b"}, api.Write{Page: 4, Data: "d"}))
}
