package tree_test

import (
	"encoding/binary"
	"fmt"
	"maps"
	"math"
	"slices"
	"strings"
	"testing"

	"decretal/api"
	"decretal/disk"
	"decretal/pages"
	"decretal/tree"
)

const (
	homeAt   = 66 // where page 0 is at home
	pageSize = 480
	mostKey  = 48
	mostVal  = 160
	mostNote = 400
)

// chance tells numbers that look like nothing in particular, and are the same each time.
type chance uint64

// below tells the next one, from 0 on, below n.
func (c *chance) below(n int) int {
	*c = *c*6364136223846793005 + 1442695040888963407
	return int(uint64(*c)>>33) % n
}

// made tells a new disk of so many blocks.
func made(t testing.TB, n int) *disk.Disk {
	t.Helper()
	d, e := disk.New(n)
	if e != api.OK {
		t.Fatal(int(e))
	}
	return d
}

// paged tells a disk's pages.
func paged(t testing.TB, d *disk.Disk) *pages.Pages {
	t.Helper()
	p, e := pages.Open(d)
	if e != api.OK {
		t.Fatalf("pages.Open: %d", int(e))
	}
	return p
}

// opened tells the tree of pages, which must be.
func opened(t testing.TB, p *pages.Pages) *tree.Tree {
	t.Helper()
	x, e := tree.Open(p)
	if x == nil || e != api.OK {
		t.Fatalf("Open: %d", int(e))
	}
	return x
}

// fresh tells an empty tree on a new disk with so many pages, and what it stands over.
func fresh(t testing.TB, count int) (*tree.Tree, *pages.Pages, *disk.Disk) {
	t.Helper()
	d := made(t, homeAt+count)
	p := paged(t, d)
	return opened(t, p), p, d
}

// refuses asks whether Open answers that error, and no tree.
func refuses(t *testing.T, what string, p *pages.Pages, want api.Errno) {
	t.Helper()
	if x, e := tree.Open(p); x != nil || e != want {
		t.Errorf("Open of %s: %d, not %d", what, int(e), int(want))
	}
}

// answers asks whether a call's error is that one.
func answers(t testing.TB, call string, e, want api.Errno) {
	t.Helper()
	if e != want {
		t.Errorf("%s: %d, not %d", call, int(e), int(want))
	}
}

// dark takes a disk's power.
func dark(d *disk.Disk) {
	d.Arm(0)
	d.Flush()
}

// alike asks whether two disks tell the same, and have as many loose writes.
func alike(t *testing.T, what string, d, f *disk.Disk) {
	t.Helper()
	if d.Loose() != f.Loose() {
		t.Errorf("%s: %d writes are loose, not %d", what, d.Loose(), f.Loose())
	}
	for i := range f.Len() {
		s, e := d.Read(i)
		if r, g := f.Read(i); s != r || e != g {
			t.Errorf("%s: the block %d is another one", what, i)
		}
	}
}

// put tells an edit that puts.
func put(key, value string) api.Edit { return api.Edit{Key: key, Value: value} }

// cut tells an edit that cuts.
func cut(from, to string) api.Edit { return api.Edit{Key: from, Cut: true, To: to} }

// model is keys and values, plainly.
type model map[string]string

// done tells the model behind edits, done one by one.
func (m model) done(l []api.Edit) model {
	next := maps.Clone(m)
	for _, d := range l {
		if !d.Cut {
			next[d.Key] = d.Value
			continue
		}
		for k := range next {
			if k >= d.Key && (d.To == "" || k < d.To) {
				delete(next, k)
			}
		}
	}
	return next
}

// span tells what Scan is to tell.
func (m model) span(from, to string, most int) []api.Pair {
	var l []api.Pair
	for _, k := range slices.Sorted(maps.Keys(m)) {
		if k >= from && (to == "" || k < to) && (most < 0 || len(l) < most) {
			l = append(l, api.Pair{Key: k, Value: m[k]})
		}
	}
	return l
}

// keys tells them all, rising.
func (m model) keys() []string { return slices.Sorted(maps.Keys(m)) }

// is asks whether a tree has just what the model has.
func (m model) is(t testing.TB, what string, x *tree.Tree) {
	t.Helper()
	if l, e := x.Scan("", "", -1); !slices.Equal(l, m.span("", "", -1)) || e != api.OK || x.Len() != len(m) {
		t.Errorf("%s: %d keys, %d, Len %d, not %d keys", what, len(l), int(e), x.Len(), len(m))
	}
}

// sight is what stands in pages by the chapter's words, apart from the way that the package goes.
type sight struct {
	t     testing.TB
	p     *pages.Pages
	pages map[int]bool
	pairs []api.Pair
	deep  int              // of the deepest leaf
	lone  int              // how many nodes have one kid
	way   map[string][]int // the pages from the root to a key
}

// fail ends a test whose pages are no tree.
func (s *sight) fail(page int, what string) {
	s.t.Helper()
	s.t.Fatalf("the page %d %s", page, what)
}

// number takes a number off the front.
func (s *sight) number(page int, text string) (int, string) {
	n, used := binary.Varint([]byte(text))
	if used <= 0 || n < 0 {
		s.fail(page, "has no number")
	}
	return int(n), text[used:]
}

// text takes a text off the front.
func (s *sight) text(page int, text string) (string, string) {
	n, text := s.number(page, text)
	if n > len(text) {
		s.fail(page, "ends early")
	}
	return text[:n], text[n:]
}

// node tells whether a page's node is a leaf, and its pairs.
func (s *sight) node(page int) (bool, []api.Pair) {
	text, e := s.p.Read(page)
	if e != api.OK || text[0] != 1 && text[0] != 2 {
		s.fail(page, "has no node")
	}
	leaf := text[0] == 1
	count, text := s.number(page, text[1:])
	var l []api.Pair
	for range count {
		var p api.Pair
		p.Key, text = s.text(page, text)
		p.Value, text = s.text(page, text)
		if p.Key == "" || len(p.Key) > mostKey || leaf && len(p.Value) > mostVal || !leaf && len(p.Value) != 4 {
			s.fail(page, "has a pair that may not be")
		}
		if len(l) > 0 && p.Key <= l[len(l)-1].Key {
			s.fail(page, "has keys that do not rise")
		}
		l = append(l, p)
	}
	if count == 0 || strings.Trim(text, "\x00") != "" {
		s.fail(page, "is no node's")
	}
	return leaf, l
}

// under takes in a page and what is under it, behind the pages above it, and tells all the keys there.
func (s *sight) under(page int, above []int) []string {
	if page < 1 || page >= s.p.Len() || s.pages[page] {
		s.fail(page, "is none, or named twice")
	}
	s.pages[page] = true
	way := append(slices.Clone(above), page)
	leaf, l := s.node(page)
	if leaf {
		s.pairs, s.deep = append(s.pairs, l...), max(s.deep, len(way))
		var keys []string
		for _, p := range l {
			keys = append(keys, p.Key)
			s.way[p.Key] = way
		}
		return keys
	}
	if len(l) == 1 {
		s.lone++
	}
	var all []string
	for _, p := range l {
		keys := s.under(int(binary.BigEndian.Uint32([]byte(p.Value))), way)
		if keys[0] != p.Key || len(all) > 0 && all[len(all)-1] >= p.Key {
			s.fail(page, "has a key that is not the least one, or keys that are not below it")
		}
		all = append(all, keys...)
	}
	return all
}

// root tells which page is.
func root(t testing.TB, p *pages.Pages) int {
	t.Helper()
	s, e := p.Read(0)
	if e != api.OK || len(s) != pageSize || strings.Trim(s[4:], "\x00") != "" {
		t.Fatalf("page 0: %d, %q", int(e), s)
	}
	return int(binary.BigEndian.Uint32([]byte(s)))
}

// seen tells what stands in the pages of a root.
func seen(t testing.TB, p *pages.Pages, root int) *sight {
	t.Helper()
	s := &sight{t: t, p: p, pages: map[int]bool{}, way: map[string][]int{}}
	if root != 0 {
		s.under(root, nil)
	}
	return s
}

// stands asks whether pages have the tree of a model, and tells what is seen of it.
func (m model) stands(t testing.TB, what string, p *pages.Pages) *sight {
	t.Helper()
	s := seen(t, p, root(t, p))
	if !slices.Equal(s.pairs, m.span("", "", -1)) {
		t.Errorf("%s: the pages have %d keys, not %d, or others", what, len(s.pairs), len(m))
	}
	return s
}

// filled puts zeros behind up to a page's length.
func filled(s string) string { return s + strings.Repeat("\x00", pageSize-len(s)) }

// first tells page 0.
func first(root int) string {
	return filled(string(binary.BigEndian.AppendUint32(nil, uint32(root))))
}

// count tells a number's bytes.
func count(n int) string { return string(binary.AppendVarint(nil, int64(n))) }

// leaf tells a leaf's page, of keys and values by turns.
func leaf(l ...string) string {
	s := "\x01" + count(len(l)/2)
	for _, x := range l {
		s += count(len(x)) + x
	}
	return filled(s)
}

// to is a key of a node that is no leaf, and the page that stands there.
type to struct {
	key  string
	page int
}

// inner tells the page of a node that is no leaf.
func inner(l ...to) string {
	s := "\x02" + count(len(l))
	for _, x := range l {
		s += count(len(x.key)) + x.key + count(4) + string(binary.BigEndian.AppendUint32(nil, uint32(x.page)))
	}
	return filled(s)
}

// laid tells pages, so many, of which some are these, all at home.
func laid(t testing.TB, count int, l map[int]string) (*pages.Pages, *disk.Disk) {
	t.Helper()
	d := made(t, homeAt+count)
	p := paged(t, d)
	for i, s := range l {
		answers(t, "pages.Commit", p.Commit([]api.Write{{Page: i, Data: s}}, "laid"), api.OK)
	}
	answers(t, "pages.Checkpoint", p.Checkpoint(), api.OK)
	return p, d
}

// The document's example.
func TestExample(t *testing.T) {
	x, _, _ := fresh(t, 32)
	answers(t, "Apply", x.Apply([]api.Edit{put("a", "x"), put("b", "y")}, ""), api.OK)
	n, e := x.Snap()
	if n != 1 || e != api.OK {
		t.Errorf("Snap: %d, %d", n, int(e))
	}
	answers(t, "Apply", x.Apply([]api.Edit{cut("a", "b"), put("c", "z")}, ""), api.OK)
	if l, e := x.Scan("", "", -1); !slices.Equal(l, []api.Pair{{Key: "b", Value: "y"}, {Key: "c", Value: "z"}}) || e != api.OK {
		t.Errorf("Scan: %v, %d", l, int(e))
	}
	if l, e := x.At(1, "", "", -1); !slices.Equal(l, []api.Pair{{Key: "a", Value: "x"}, {Key: "b", Value: "y"}}) || e != api.OK {
		t.Errorf("At: %v, %d", l, int(e))
	}
	if tree.MaxEdits != 64 {
		t.Errorf("MaxEdits: %d", tree.MaxEdits)
	}
}

// No tree, and such that Open did not make, have nothing, whatever else is wrong.
func TestNoTree(t *testing.T) {
	var none *tree.Tree
	for _, x := range []*tree.Tree{none, {}, new(tree.Tree)} {
		for range 2 {
			if x.Len() != 0 || x.Used() != 0 || x.Note() != "" {
				t.Errorf("Len %d, Used %d, Note %q", x.Len(), x.Used(), x.Note())
			}
			if s, e := x.Get("a"); s != "" || e != api.ErrNil {
				t.Errorf("Get: %q, %d", s, int(e))
			}
			if l, e := x.Scan("", "", -1); len(l) != 0 || e != api.ErrNil {
				t.Errorf("Scan: %v, %d", l, int(e))
			}
			for _, n := range []int{-1, 0, 1} {
				if l, e := x.At(n, "", "", -1); len(l) != 0 || e != api.ErrNil {
					t.Errorf("At: %v, %d", l, int(e))
				}
				answers(t, "Release", x.Release(n), api.ErrNil)
			}
			if n, e := x.Snap(); n != 0 || e != api.ErrNil {
				t.Errorf("Snap: %d, %d", n, int(e))
			}
			answers(t, "Apply", x.Apply(nil, ""), api.ErrNil)
			answers(t, "Apply", x.Apply(make([]api.Edit, 65), strings.Repeat("n", 401)), api.ErrNil)
			answers(t, "Sync", x.Sync(), api.ErrNil)
		}
	}
}

// P10.1: pages must be there, and page 0 be read.
func TestOpenPages(t *testing.T) {
	refuses(t, "no pages", nil, api.ErrNil)
	refuses(t, "pages that nothing made", &pages.Pages{}, api.ErrNil)
	for what, l := range map[string]map[int]string{"an empty tree": {}, "a leaf": {0: first(1), 1: leaf("a", "x")}, "rot": {0: first(1), 1: "rot"}} {
		p, d := laid(t, 32, l)
		dark(d)
		refuses(t, what+", without power", p, api.ErrPower)
	}
}

// standing tells pages of trees that stand, and whose keys and values are those of the models.
func standing() map[string]struct {
	pages map[int]string
	m     model
} {
	long := func(b byte, n int) string { return strings.Repeat(string([]byte{b}), n) }
	type tree = struct {
		pages map[int]string
		m     model
	}
	l := map[string]tree{
		"nothing":           {map[int]string{}, model{}},
		"nothing, and junk": {map[int]string{1: "junk", 2: leaf("a", "x"), 31: inner(to{"a", 0})}, model{}},
		"a leaf":            {map[int]string{0: first(1), 1: leaf("a", "x")}, model{"a": "x"}},
		"a leaf, last page": {map[int]string{0: first(31), 31: leaf("a", "x", "b", "")}, model{"a": "x", "b": ""}},
		"one kid":           {map[int]string{0: first(1), 1: inner(to{"a", 2}), 2: leaf("a", "x")}, model{"a": "x"}},
		"two kids":          {map[int]string{0: first(2), 2: inner(to{"a", 5}, to{"b", 1}), 5: leaf("a", "x", "a\xff\xff", "y"), 1: leaf("b", "z")}, model{"a": "x", "a\xff\xff": "y", "b": "z"}},
		"kids alone":        {map[int]string{0: first(1), 1: inner(to{"k", 2}), 2: inner(to{"k", 3}), 3: inner(to{"k", 4}), 4: inner(to{"k", 5}), 5: leaf("k", "x", "m", "y")}, model{"k": "x", "m": "y"}},
		"deeper to the right": {map[int]string{0: first(9), 9: inner(to{"a", 8}, to{"c", 7}), 8: leaf("a", "1", "b", "2"), 7: inner(to{"c", 6}, to{"d", 5}), 6: leaf("c", "3"),
			5: inner(to{"d", 4}, to{"e", 3}, to{"g", 2}), 4: leaf("d", "4"), 3: leaf("e", "5", "f", "6"), 2: leaf("g", "7")},
			model{"a": "1", "b": "2", "c": "3", "d": "4", "e": "5", "f": "6", "g": "7"}},
		"deeper to the left": {map[int]string{0: first(1), 1: inner(to{"a", 2}, to{"z", 9}), 2: inner(to{"a", 3}, to{"x", 8}), 3: inner(to{"a", 4}), 4: leaf("a", "1", "w", "2"), 8: leaf("x", "3", "y\xff", "4"), 9: leaf("z", "5")},
			model{"a": "1", "w": "2", "x": "3", "y\xff": "4", "z": "5"}},
		"deeper between": {map[int]string{0: first(1), 1: inner(to{"a", 2}, to{"b", 3}, to{"h", 7}), 2: leaf("a", "1"), 3: inner(to{"b", 4}, to{"d", 5}), 4: leaf("b", "2"), 5: inner(to{"d", 6}), 6: leaf("d", "3", "e", "4"), 7: leaf("h", "5")},
			model{"a": "1", "b": "2", "d": "3", "e": "4", "h": "5"}},
		"bytes of all kinds": {map[int]string{0: first(3), 3: inner(to{"\x00", 1}, to{"\x80", 2}), 1: leaf("\x00", "\x00\x00", "\x00\x00", "", "A", "\xff"), 2: leaf("\x80", "", "\xff", "x", "\xff\xff", "y")},
			model{"\x00": "\x00\x00", "\x00\x00": "", "A": "\xff", "\x80": "", "\xff": "x", "\xff\xff": "y"}},
		"the longest": {map[int]string{0: first(1), 1: inner(to{long('a', 48), 2}, to{long('b', 48), 3}), 2: leaf(long('a', 48), long('v', 160), long('a', 47)+"b", ""), 3: leaf(long('b', 48), "")},
			model{long('a', 48): long('v', 160), long('a', 47) + "b": "", long('b', 48): ""}},
		"a page just": {map[int]string{0: first(1), 1: leaf("a", long('x', 160), "b", long('y', 160), "c", long('z', 146))}, model{"a": long('x', 160), "b": long('y', 160), "c": long('z', 146)}},
	}
	many := tree{map[int]string{0: first(1)}, model{}}
	var kids []to
	for i := range 28 {
		k := fmt.Sprintf("k%02d", i)
		kids = append(kids, to{k, 31 - i})
		many.pages[31-i], many.m[k], many.m[k+"!"] = leaf(k, "v", k+"!", "w"), "v", "w"
	}
	many.pages[1] = inner(kids...)
	l["many kids"] = many
	return l
}

// P10.1, P10.2 and P10.5: a tree that stands is opened, whatever shape it has, and nothing is written; it tells what it has, and is changed like any other one.
func TestOpenStanding(t *testing.T) {
	for what, c := range standing() {
		p, d := laid(t, 32, c.pages)
		f := d.Copy()
		x := opened(t, p)
		c.m.is(t, what, x)
		used := 1 + len(c.m.stands(t, what, p).pages)
		if x.Used() != used || x.Note() != p.Note() {
			t.Errorf("%s: Used %d, not %d, Note %q", what, x.Used(), used, x.Note())
		}
		tells(t, what, x, c.m)
		alike(t, what, d, f)
		keys := append(c.m.keys(), "0", "\xff\xff\xff")
		for i, k := range keys {
			for _, l := range [][]api.Edit{{put(k, "new")}, {put(k+"+", strings.Repeat("+", mostVal))}, {cut(k, k+"\x00")}, {cut(k, "")}, {cut("", k)}, {cut(keys[i/2], k), put("i", "j")}, nil} {
				edits(t, what, f.Copy(), c.m, l)
			}
		}
	}
}

// edits does edits on a disk's tree, which is the model's, and asks whether all is as it should be.
func edits(t *testing.T, what string, d *disk.Disk, m model, l []api.Edit) {
	t.Helper()
	for i := range l {
		if len(l[i].Key) > mostKey || len(l[i].To) > mostKey {
			return
		}
	}
	p := paged(t, d)
	x := opened(t, p)
	what = fmt.Sprintf("%s, behind %.60s", what, fmt.Sprint(l))
	answers(t, what, x.Apply(l, "n"), api.OK)
	m = m.done(l)
	m.is(t, what, x)
	s := m.stands(t, what, p)
	if x.Used() != 1+len(s.pages) || x.Note() != "n" {
		t.Errorf("%s: Used %d, not %d; Note %q", what, x.Used(), 1+len(s.pages), x.Note())
	}
	answers(t, "Sync", x.Sync(), api.OK)
	d.Crash(nil)
	m.is(t, what, opened(t, paged(t, d)))
}

// rotten tells pages whose tree does not stand.
func rotten() map[string]map[int]string {
	l := map[string]map[int]string{
		"a root too far":           {0: first(32)},
		"a root far away":          {0: first(1 << 24)},
		"the farthest root":        {0: first(math.MaxUint32)},
		"no root, a byte behind":   {0: "\x00\x00\x00\x00\x01"},
		"a root in five bytes":     {0: "\x00\x00\x00\x00\x01", 1: leaf("a", "x")},
		"a root, a byte behind":    {0: "\x00\x00\x00\x01\x01", 1: leaf("a", "x")},
		"a root, a byte at last":   {0: first(1)[:479] + "\x01", 1: leaf("a", "x")},
		"page 0 as a leaf":         {0: leaf("a", "x")},
		"no root's node":           {0: first(1)},
		"junk":                     {0: first(1), 1: "junk"},
		"no mark":                  {0: first(1), 1: "\x03" + leaf("a", "x")[1:]},
		"no pairs":                 {0: first(1), 1: "\x01\x00"},
		"no kids":                  {0: first(1), 1: "\x02\x00"},
		"a byte behind a node":     {0: first(1), 1: leaf("a", "x")[:479] + "\x01"},
		"keys that fall":           {0: first(1), 1: leaf("b", "x", "a", "y")},
		"a key twice":              {0: first(1), 1: leaf("a", "x", "a", "y")},
		"no key":                   {0: first(1), 1: leaf("", "x")},
		"a key of 49":              {0: first(1), 1: leaf(strings.Repeat("k", 49), "x")},
		"a value of 161":           {0: first(1), 1: leaf("k", strings.Repeat("x", 161))},
		"page 0 as a kid":          {0: first(1), 1: inner(to{"a", 0})},
		"page 0 as a second kid":   {0: first(1), 1: inner(to{"a", 2}, to{"b", 0}), 2: leaf("a", "x")},
		"itself as a kid":          {0: first(1), 1: inner(to{"a", 1})},
		"itself as a second kid":   {0: first(1), 1: inner(to{"a", 2}, to{"b", 1}), 2: leaf("a", "x")},
		"its parent as a kid":      {0: first(1), 1: inner(to{"a", 2}), 2: inner(to{"a", 1})},
		"a kid too far":            {0: first(1), 1: inner(to{"a", 32})},
		"a kid far away":           {0: first(1), 1: inner(to{"a", math.MaxUint32})},
		"a kid twice":              {0: first(1), 1: inner(to{"a", 2}, to{"b", 2}), 2: leaf("a", "x")},
		"a kid of two":             {0: first(1), 1: inner(to{"a", 2}, to{"b", 3}), 2: inner(to{"a", 4}), 3: inner(to{"b", 4}), 4: leaf("a", "x", "b", "y")},
		"a kid without a node":     {0: first(1), 1: inner(to{"a", 2})},
		"a kid of junk":            {0: first(1), 1: inner(to{"a", 2}, to{"b", 3}), 2: leaf("a", "x"), 3: "junk"},
		"a key below the least":    {0: first(1), 1: inner(to{"a", 2}), 2: leaf("b", "x")},
		"a key above the least":    {0: first(1), 1: inner(to{"b", 2}), 2: leaf("a", "x", "b", "y")},
		"a second key below":       {0: first(1), 1: inner(to{"a", 2}, to{"b", 3}), 2: leaf("a", "x"), 3: leaf("c", "y")},
		"a second key above":       {0: first(1), 1: inner(to{"a", 2}, to{"c", 3}), 2: leaf("a", "x"), 3: leaf("b", "y", "c", "z")},
		"the next key":             {0: first(1), 1: inner(to{"a", 2}, to{"b", 3}), 2: leaf("a", "x", "b", "y"), 3: leaf("b", "z")},
		"behind the next key":      {0: first(1), 1: inner(to{"a", 2}, to{"b", 3}), 2: leaf("a", "x", "c", "y"), 3: leaf("b", "z")},
		"a kid's beginning behind": {0: first(1), 1: inner(to{"a", 2}, to{"b", 3}), 2: leaf("a", "x", "b\x00", "y"), 3: leaf("b", "z")},
		"the next but one's key":   {0: first(1), 1: inner(to{"a", 2}, to{"m", 5}), 2: inner(to{"a", 3}, to{"c", 4}), 3: leaf("a", "x"), 4: leaf("c", "y", "m", "z"), 5: leaf("m", "z")},
		"behind that":              {0: first(1), 1: inner(to{"a", 2}, to{"m", 5}), 2: inner(to{"a", 3}, to{"c", 4}), 3: leaf("a", "x"), 4: leaf("c", "y", "z", "z"), 5: leaf("m", "z")},
		"a kid's key behind that":  {0: first(1), 1: inner(to{"a", 2}, to{"m", 5}), 2: inner(to{"a", 3}, to{"m", 4}), 3: leaf("a", "x"), 4: leaf("m", "y"), 5: leaf("m", "z")},
		"a key below, deeper":      {0: first(1), 1: inner(to{"b", 2}), 2: inner(to{"b", 3}), 3: leaf("a", "x", "b", "y")},
		"a key above, deeper":      {0: first(1), 1: inner(to{"b", 2}, to{"m", 5}), 2: inner(to{"a", 3}, to{"c", 4}), 3: leaf("a", "x"), 4: leaf("c", "y"), 5: leaf("m", "z")},
		"a leaf's first key":       {0: first(1), 1: inner(to{"a", 2}, to{"m", 5}), 2: inner(to{"a", 3}, to{"c", 4}), 3: leaf("a", "x"), 4: leaf("b", "y", "c", "z"), 5: leaf("m", "z")},
	}
	return l
}

// P10.1: what does not stand is rot, and nothing is written.
func TestOpenRot(t *testing.T) {
	for what, l := range rotten() {
		p, d := laid(t, 32, l)
		f := d.Copy()
		refuses(t, what, p, api.ErrRot)
		alike(t, what, d, f)
		refuses(t, what, paged(t, f), api.ErrRot)
	}
}

// P10.1: rot that can be seen is told ahead of another page that can't be read; else that is told.
func TestOpenOrder(t *testing.T) {
	whole := map[int]string{0: first(1), 1: inner(to{"a", 2}, to{"b", 3}, to{"c", 4}), 2: leaf("a", "x"), 3: leaf("b", "y"), 4: leaf("c", "z")}
	for what, c := range map[string]struct {
		dirty []api.Write
		want  api.Errno
	}{
		"page 0 alone":         {[]api.Write{{Page: 0, Data: whole[0]}}, api.ErrPower},
		"page 0 and the root":  {[]api.Write{{Page: 0, Data: whole[0]}, {Page: 1, Data: whole[1]}}, api.ErrPower},
		"all but one":          {[]api.Write{{Page: 0, Data: whole[0]}, {Page: 1, Data: whole[1]}, {Page: 2, Data: whole[2]}, {Page: 4, Data: whole[4]}}, api.ErrPower},
		"all":                  {[]api.Write{{Page: 0, Data: whole[0]}, {Page: 1, Data: whole[1]}, {Page: 2, Data: whole[2]}, {Page: 3, Data: whole[3]}, {Page: 4, Data: whole[4]}}, api.OK},
		"no page 0":            {[]api.Write{{Page: 1, Data: "junk"}}, api.ErrPower},
		"a root that is none":  {[]api.Write{{Page: 0, Data: first(32)}}, api.ErrRot},
		"an empty tree":        {[]api.Write{{Page: 0}}, api.OK},
		"a kid of junk behind": {[]api.Write{{Page: 0, Data: whole[0]}, {Page: 1, Data: whole[1]}, {Page: 4, Data: "junk"}}, api.ErrRot},
		"a kid too far behind": {[]api.Write{{Page: 0, Data: whole[0]}, {Page: 1, Data: inner(to{"a", 2}, to{"b", 3}, to{"c", 99})}}, api.ErrRot},
		"a kid twice behind":   {[]api.Write{{Page: 0, Data: whole[0]}, {Page: 1, Data: inner(to{"a", 2}, to{"b", 3}, to{"c", 2})}}, api.ErrRot},
		"a wrong key behind":   {[]api.Write{{Page: 0, Data: whole[0]}, {Page: 1, Data: whole[1]}, {Page: 3, Data: leaf("b", "y", "c", "z")}}, api.ErrRot},
	} {
		p, d := laid(t, 32, whole)
		answers(t, "pages.Commit", p.Commit(c.dirty, ""), api.OK)
		dark(d)
		x, e := tree.Open(p)
		if e != c.want || (x != nil) != (c.want == api.OK) {
			t.Errorf("Open, where %s can be read: %d, not %d", what, int(e), int(c.want))
		}
	}
}

// P10.1: the note is that of the pages, and Sync is theirs.
func TestNoteSync(t *testing.T) {
	x, p, d := fresh(t, 32)
	for _, note := range []string{"a", "", "\x00\xff", strings.Repeat("n", mostNote), "b"} {
		answers(t, "Apply", x.Apply([]api.Edit{put("k", note[:len(note)/3])}, note), api.OK)
		if x.Note() != note || p.Note() != note {
			t.Errorf("Note: %q, not %q", x.Note(), note)
		}
		if d.Loose() == 0 {
			t.Error("nothing is loose ahead of Sync")
		}
		answers(t, "Sync", x.Sync(), api.OK)
		if d.Loose() != 0 {
			t.Error("something is loose behind Sync")
		}
		if p := paged(t, d.Copy()); p.Note() != note || opened(t, p).Note() != note {
			t.Errorf("the note is %q behind Sync, not %q", p.Note(), note)
		}
	}
	dark(d)
	answers(t, "Sync", x.Sync(), api.ErrPower)
	if x.Note() != "b" {
		t.Errorf("Note: %q", x.Note())
	}
}

// tells asks whether Get, Scan and Len tell what a model has, of spans of all kinds.
func tells(t *testing.T, what string, x *tree.Tree, m model) {
	t.Helper()
	var at []string
	for _, k := range m.keys() {
		at = append(at, k, k+"\x00", k[:len(k)-1])
	}
	at = append(at, "", "\x00", "m", "\xff\xff\xff", strings.Repeat("k", 49), strings.Repeat("\xff", 1000))
	for i, k := range at {
		want, ok := m[k]
		if s, e := x.Get(k); s != want || ok != (e == api.OK) || !ok && e != api.ErrNone {
			t.Errorf("%s: Get(%q): %q, %d", what, k, s, int(e))
		}
		for j, to := range at {
			most := []int{-1, math.MinInt, 0, 1, 2, 3, 7, math.MaxInt}[(i*5+j)%8]
			if len(at) > 100 && (i+j)%101 != 0 {
				continue
			}
			if l, e := x.Scan(k, to, most); !slices.Equal(l, m.span(k, to, most)) || e != api.OK {
				t.Errorf("%s: Scan(%q, %q, %d): %d pairs, %d", what, k, to, most, len(l), int(e))
			}
		}
	}
	if x.Len() != len(m) {
		t.Errorf("%s: Len %d, not %d", what, x.Len(), len(m))
	}
}

// P10.2: what is found, in trees of all sizes, key by key.
func TestTells(t *testing.T) {
	for _, long := range []int{4, 20, mostKey} {
		x, _, _ := fresh(t, 400)
		m := model{}
		tells(t, "nothing", x, m)
		for i := range 150 {
			k := fmt.Sprintf("%04d", i*77%150*3)
			l := []api.Edit{put(k+strings.Repeat("k", long-4), strings.Repeat("v", i*31%(mostVal+1)))}
			answers(t, "Apply", x.Apply(l, ""), api.OK)
			m = m.done(l)
			if i < 4 || i%37 == 0 {
				tells(t, fmt.Sprint(i+1, " keys of ", long), x, m)
			}
		}
		tells(t, fmt.Sprint("all keys of ", long), x, m)
		l, _ := x.Scan("", "", -1)
		clear(l)
		m.is(t, "behind what was done to a list that it told", x)
	}
}

// P10.2 and P10.4: where pages can't be read any more, that is told, and nothing else; what needs no page is told as it is.
func TestPower(t *testing.T) {
	x, p, d := fresh(t, 100)
	m := model{}
	for i := range 30 {
		l := []api.Edit{put(fmt.Sprintf("%02d", i), strings.Repeat("v", mostVal))}
		answers(t, "Apply", x.Apply(l, "n"), api.OK)
		m = m.done(l)
	}
	n, _ := x.Snap()
	answers(t, "Checkpoint", p.Checkpoint(), api.OK)
	used := x.Used()
	dark(d)
	if s, e := x.Get("11"); s != "" || e != api.ErrPower {
		t.Errorf("Get: %q, %d", s, int(e))
	}
	if l, e := x.Scan("", "", -1); len(l) != 0 || e != api.ErrPower {
		t.Errorf("Scan: %v, %d", l, int(e))
	}
	if l, e := x.At(n, "", "", -1); len(l) != 0 || e != api.ErrPower {
		t.Errorf("At: %v, %d", l, int(e))
	}
	for _, l := range [][]api.Edit{nil, {put("a", "x")}, {cut("", "")}, {cut("05", "17"), put("06", "")}} {
		answers(t, "Apply", x.Apply(l, "o"), api.ErrPower)
	}
	if x.Len() != 30 || x.Used() != used || x.Note() != "n" {
		t.Errorf("Len %d, Used %d, Note %q", x.Len(), x.Used(), x.Note())
	}
	d.Crash(nil)
	m.is(t, "behind the crash", opened(t, paged(t, d)))
}

// P10.2: behind the first pages that were read an error comes alone, too.
func TestPowerWithin(t *testing.T) {
	x, p, d := fresh(t, 100)
	for i := range 30 {
		answers(t, "Apply", x.Apply([]api.Edit{put(fmt.Sprintf("%02d", i), strings.Repeat("v", mostVal))}, "n"), api.OK)
	}
	answers(t, "Checkpoint", p.Checkpoint(), api.OK)
	answers(t, "Apply", x.Apply([]api.Edit{put("00", "new")}, ""), api.OK) // the way to it is in pages that need no power
	dark(d)
	if s, e := x.Get("00"); s != "new" || e != api.OK {
		t.Errorf("Get: %q, %d", s, int(e))
	}
	if l, e := x.Scan("", "", 1); !slices.Equal(l, []api.Pair{{Key: "00", Value: "new"}}) || e != api.OK {
		t.Errorf("Scan of one: %v, %d", l, int(e))
	}
	if l, e := x.Scan("", "", -1); l != nil || e != api.ErrPower {
		t.Errorf("Scan: %v, %d", l, int(e))
	}
	answers(t, "Apply", x.Apply([]api.Edit{put("00", "newer")}, ""), api.ErrPower)
	if s, e := x.Get("00"); s != "new" || e != api.OK {
		t.Errorf("Get: %q, %d", s, int(e))
	}
}

// wrongEdits tells edits, and notes, that may not be.
func wrongEdits() map[string]struct {
	l    []api.Edit
	note string
} {
	text := func(n int) string { return strings.Repeat("t", n) }
	type call = struct {
		l    []api.Edit
		note string
	}
	right := slices.Repeat([]api.Edit{put("k", "v")}, 64)
	return map[string]call{
		"65 edits":                  {append(slices.Clone(right), put("k", "v")), ""},
		"65 edits of nothing":       {make([]api.Edit, 65), ""},
		"65 cuts":                   {slices.Repeat([]api.Edit{cut("", "")}, 65), ""},
		"no key":                    {[]api.Edit{put("", "x")}, ""},
		"no key, but to":            {[]api.Edit{{To: "x", Value: "y"}}, ""},
		"a key of 49":               {[]api.Edit{put(text(49), "x")}, ""},
		"a value of 161":            {[]api.Edit{put("k", text(161))}, ""},
		"a cut from 49":             {[]api.Edit{cut(text(49), "")}, ""},
		"a cut to 49":               {[]api.Edit{cut("", text(49))}, ""},
		"a cut from and to 49":      {[]api.Edit{cut(text(49), text(49))}, ""},
		"no key, cut behind":        {[]api.Edit{put("", "x"), cut("", "")}, ""},
		"a long key, cut behind":    {[]api.Edit{put(text(49), "x"), cut("t", "")}, ""},
		"a value of 161, put again": {[]api.Edit{put("k", text(161)), put("k", "x")}, ""},
		"a wrong one last":          {append(slices.Clone(right[:63]), put("k", text(161))), ""},
		"a wrong one first":         {[]api.Edit{cut("", text(49)), put("k", "v")}, ""},
		"a note of 401":             {nil, text(401)},
		"a note of 401, and edits":  {right, text(401)},
		"a long note, a wrong edit": {[]api.Edit{put("", "")}, text(1 << 16)},
	}
}

// P10.3: edits, and notes, that may not be are told ahead of all else, and nothing is turned.
func TestApplyRefuses(t *testing.T) {
	for what, c := range wrongEdits() {
		x, _, d := fresh(t, 32)
		m := model{}.done([]api.Edit{put("a", "x"), put("k", "w"), put("z", "")})
		answers(t, "Apply", x.Apply([]api.Edit{put("a", "x"), put("k", "w"), put("z", "")}, "n"), api.OK)
		f := d.Copy()
		answers(t, what, x.Apply(c.l, c.note), api.ErrArg)
		m.is(t, what, x)
		alike(t, what, d, f)
		if x.Note() != "n" || x.Used() != 2 {
			t.Errorf("%s: Note %q, Used %d", what, x.Note(), x.Used())
		}
		for full, i := api.OK, 0; full == api.OK; i++ {
			full = x.Apply([]api.Edit{put(fmt.Sprint(i), strings.Repeat("v", mostVal))}, "")
		}
		answers(t, what+", without room", x.Apply(append(row(20, 10, mostVal), c.l...), c.note), api.ErrArg)
		dark(d)
		answers(t, what+", without power", x.Apply(c.l, c.note), api.ErrArg)
	}
}

// P10.3: what may be at the limits; what a put says besides, and a cut, is nothing.
func TestApplyLimits(t *testing.T) {
	text := func(n int) string { return strings.Repeat("t", n) }
	for what, l := range map[string][]api.Edit{
		"no edits":            nil,
		"an empty list":       {},
		"a key of 1":          {put("\x00", "")},
		"the longest":         {put(text(48), text(160))},
		"cuts to 48":          {put(text(47), ""), put(text(48), "x"), put("u", ""), cut("", text(48))},
		"cuts from 48":        {put(text(47), ""), put(text(48), "x"), put("u", ""), cut(text(48), "")},
		"a put with to":       {{Key: "a", Value: "x", To: text(99)}, put("b", "")},
		"a cut with a value":  {put("a", "x"), put("b", "y"), {Key: "a", To: "b", Cut: true, Value: text(999)}},
		"a cut of one":        {put("a", "x"), put("b", "y"), put("c", "z"), cut("b", "b\x00")},
		"a cut of none":       {put("a", "x"), put("b", "y"), cut("a\x00", "b")},
		"a cut from to":       {put("a", "x"), put("b", "y"), cut("b", "b")},
		"a cut that falls":    {put("a", "x"), put("b", "y"), put("c", "z"), cut("c", "a")},
		"a cut to the end":    {put("a", "x"), put("b", "y"), put("c", "z"), cut("b", "")},
		"a cut from nothing":  {put("a", "x"), put("b", "y"), put("c", "z"), cut("", "b")},
		"a cut of all":        {put("a", "x"), put("b", "y"), put("c", "z"), cut("", "")},
		"a cut of nothing":    {cut("", ""), cut("a", "b"), cut("b", "a")},
		"a cut, then a put":   {put("a", "x"), put("b", "y"), cut("", ""), put("b", "z")},
		"a put, and another":  {put("a", "x"), put("a", ""), put("a", "y"), put("b", "y")},
		"a put twice, a cut":  {put("a", "x"), put("a", "y"), cut("a", "b"), put("c", "")},
		"64 edits":            slices.Repeat([]api.Edit{put("k", "v"), cut("k", "k\xff"), put("l", "v"), put("k", "w")}, 16),
		"64 long ones":        row(64, 48, 160),
		"64 that fall":        reversed(row(64, 48, 160)),
		"64, the last a cut":  append(row(63, 4, 100), cut("0010", "0050")),
		"64, each cut behind": each(row(32, 20, 130)),
	} {
		x, p, _ := fresh(t, 200)
		ahead := slices.Clone(l)
		room := append(slices.Clone(l), put("behind", "b"), put("it", "i"))
		answers(t, what, x.Apply(room[:len(l)], text(mostNote)), api.OK)
		m := model{}.done(l)
		m.is(t, what, x)
		if s := m.stands(t, what, p); x.Used() != 1+len(s.pages) || x.Used() > 2*len(m)+1 || x.Note() != text(mostNote) {
			t.Errorf("%s: Used %d, not %d; Note %.9q", what, x.Used(), 1+len(s.pages), x.Note())
		}
		if !slices.Equal(room, append(ahead, put("behind", "b"), put("it", "i"))) {
			t.Errorf("%s: the list has been changed", what)
		}
	}
}

// row tells so many puts, of keys that rise and have so many bytes (4 at least), and values that have so many.
func row(count, key, value int) []api.Edit {
	var l []api.Edit
	for i := range count {
		l = append(l, put(fmt.Sprintf("%04d", i)+strings.Repeat("k", key-4), strings.Repeat("v", value)))
	}
	return l
}

// reversed tells a list from its end.
func reversed(l []api.Edit) []api.Edit {
	l = slices.Clone(l)
	slices.Reverse(l)
	return l
}

// each tells puts, each of which cuts what the one ahead has put.
func each(l []api.Edit) []api.Edit {
	var all []api.Edit
	for _, d := range l {
		all = append(all, put(d.Key, d.Value), cut("", d.Key))
	}
	return all
}

// P10.3: where there is no room, nothing is turned; a cut of all has room.
func TestSpace(t *testing.T) {
	for count := 32; count < 60; count += 3 {
		x, p, d := fresh(t, count)
		m := model{}
		c := chance(count)
		for full := 0; full < 20; {
			l := []api.Edit{put(fmt.Sprintf("%03d", c.below(1000)), strings.Repeat("v", mostVal))}
			f, used, note := d.Copy(), x.Used(), x.Note()
			if e := x.Apply(l, fmt.Sprint(len(m))); e == api.OK {
				m = m.done(l)
				m.stands(t, "behind a put", p)
				continue
			} else if e != api.ErrSpace {
				t.Fatalf("Apply: %d", int(e))
			}
			full++
			m.is(t, "where there is no room", x)
			alike(t, "where there is no room", d, f)
			if x.Used() != used || x.Note() != note || used > count {
				t.Errorf("Used %d, not %d; Note %q, not %q", x.Used(), used, x.Note(), note)
			}
		}
		// A leaf's way is two pages or three, and up to as many, and one, are written beside all that are in use.
		if x.Used() < count-5 || len(m) < count/2 {
			t.Errorf("of %d pages %d are used, for %d keys", count, x.Used(), len(m))
		}
		answers(t, "Apply of a cut of all", x.Apply([]api.Edit{cut("", "")}, "all"), api.OK)
		model{}.is(t, "behind a cut of all", x)
		if x.Used() != 1 {
			t.Errorf("Used %d", x.Used())
		}
	}
}

// ways tells how many pages are on the ways to the keys of edits, with page 0.
func (s *sight) ways(l []api.Edit) int {
	on := map[int]bool{0: true}
	for _, d := range l {
		for _, page := range s.way[d.Key] {
			on[page] = true
		}
	}
	return len(on)
}

// P10.3: 64 pages are written at once, and more are not, however much room there is.
func TestTooManyPages(t *testing.T) {
	x, p, d := fresh(t, 4000)
	m, all := model{}.done(row(640, 10, mostVal)), row(640, 10, mostVal)
	for l := all; len(l) > 0; l = l[10:] {
		answers(t, "Apply", x.Apply(l[:10], "n"), api.OK)
	}
	// Where all values stay as long as they are, just the pages on the ways to them are turned.
	met := map[int]bool{}
	for i, l := 0, []api.Edit{}; len(l) < 64; i += 3 {
		l = append(l, put(all[i].Key, strings.Repeat("w", mostVal)))
		count, used := seen(t, p, root(t, p)).ways(l), x.Used()
		met[count] = true
		want := api.OK
		if count > 64 {
			want = api.ErrSpace
		}
		answers(t, "Checkpoint", p.Checkpoint(), api.OK) // so that a page that is written is a write that is loose
		f := d.Copy()
		answers(t, fmt.Sprint("Apply to ", count, " pages"), x.Apply(l, fmt.Sprint(i)), want)
		if want != api.OK {
			alike(t, "behind it", d, f)
		} else if m = m.done(l); d.Loose() != count || x.Used() != used {
			t.Errorf("%d pages were written, not %d; Used %d, not %d", d.Loose(), count, x.Used(), used)
		}
		m.is(t, "behind it", x)
	}
	for _, count := range []int{63, 64, 65, 66} {
		if !met[count] {
			t.Errorf("there were no edits of %d pages", count)
		}
	}
}

// P10.3 and P10.5: each page but page 0 can have a node, be there as many as may be kept.
func TestAllPages(t *testing.T) {
	for _, count := range []int{32, 33, 50} {
		x, p, _ := fresh(t, count)
		for i := range count + 2 {
			want, used := api.OK, i+2
			if i >= count-1 {
				want, used = api.ErrSpace, count
			}
			answers(t, fmt.Sprint("Apply, behind ", i), x.Apply([]api.Edit{put("k", fmt.Sprint(i))}, ""), want)
			if x.Used() != used {
				t.Errorf("Used %d, not %d", x.Used(), used)
			}
			x.Snap()
		}
		for i := range count - 1 {
			if l, e := x.At(i+1, "", "", -1); !slices.Equal(l, []api.Pair{{Key: "k", Value: fmt.Sprint(i)}}) || e != api.OK {
				t.Errorf("At(%d): %v, %d", i+1, l, int(e))
			}
		}
		model{"k": fmt.Sprint(count - 2)}.stands(t, "where all pages have nodes", p)
	}
}

// P10.3 and P10.8: pages of the root as it is, and of what is kept, are not written over.
func TestBeside(t *testing.T) {
	x, p, _ := fresh(t, 200)
	c := chance(3)
	var kept []string // the pages of what is kept, at the numbers of theirs
	for i := range 300 {
		var ahead []string
		s := seen(t, p, root(t, p))
		for page := range p.Len() {
			text := ""
			if s.pages[page] {
				text, _ = p.Read(page)
			}
			ahead = append(ahead, text)
		}
		if i == 150 {
			x.Snap()
			kept = ahead
		}
		answers(t, "Apply", x.Apply(c.edits(1+c.below(4), 3, 200), ""), api.OK)
		for page := range p.Len() {
			text, _ := p.Read(page)
			if ahead[page] != "" && text != ahead[page] || kept != nil && kept[page] != "" && text != kept[page] {
				t.Fatalf("the page %d was written over", page)
			}
		}
	}
}

// P10.3 and P10.8: pages of what is kept leave so much less room, till it's kept no more.
func TestKeptSpace(t *testing.T) {
	x, _, _ := fresh(t, 40)
	l := row(15, 10, mostVal) // of 8 leaves, at least
	m := model{}.done(l)
	count := 0 // of states that are kept, none of which shares a page with another one
	for e := api.OK; e == api.OK && count < 40; {
		if e = x.Apply(l, ""); e == api.OK {
			x.Snap()
			count++
			answers(t, "Apply of a cut of all", x.Apply([]api.Edit{cut("", "")}, ""), api.OK)
		} else {
			answers(t, "Apply", e, api.ErrSpace)
		}
	}
	if count < 2 || count > 39/9 || x.Used() > 40 {
		t.Errorf("%d states are kept, in %d pages", count, x.Used())
	}
	model{}.is(t, "where what is kept leaves no room", x)
	answers(t, "Release", x.Release(1), api.OK)
	answers(t, "Apply, behind Release", x.Apply(l, ""), api.OK)
	m.is(t, "behind Release", x)
	for n := 2; n <= count; n++ {
		if l, e := x.At(n, "", "", -1); !slices.Equal(l, m.span("", "", -1)) || e != api.OK {
			t.Errorf("At(%d): %d pairs, %d", n, len(l), int(e))
		}
	}
}

// key tells a key by chance, among so many, of one of several styles.
func (c *chance) key(style, many int) string {
	n := c.below(many)
	switch style {
	case 0: // short, and of few bytes
		return string([]byte("\x00\x01az\x7f\x80\xff")[n%7:n%7+1]) + strings.Repeat("\xff", n%5) + string([]byte{byte(n)})
	case 1: // as long as can be, and alike at the front
		return strings.Repeat("k", mostKey-4) + fmt.Sprintf("%04d", n)
	case 2: // as long as can be, and unlike there
		return fmt.Sprintf("%04d", n) + strings.Repeat("k", mostKey-4)
	}
	return fmt.Sprintf("%d", n) + strings.Repeat("k", n*7%30)
}

// edits tells so many edits by chance.
func (c *chance) edits(count, style, many int) []api.Edit {
	var l []api.Edit
	for range count {
		switch c.below(12) {
		case 0:
			l = append(l, cut(c.key(style, many), c.key(style, many)))
		case 1, 2:
			k := c.key(style, many)
			l = append(l, cut(k, k[:len(k)-1]+string([]byte{k[len(k)-1] + 3})))
		case 3:
			if c.below(20) == 0 {
				l = append(l, cut("", c.key(style, many)))
			}
		case 4, 5:
			l = append(l, put(c.key(style, many), strings.Repeat("v", c.below(5))))
		default:
			l = append(l, put(c.key(style, many), strings.Repeat("w", c.below(mostVal+1))))
		}
	}
	return l
}

// history is a tree, what it stands over, and what it is to have.
type history struct {
	t    *testing.T
	what string
	x    *tree.Tree
	p    *pages.Pages
	d    *disk.Disk
	now  model
	kept map[int]model
	root map[int]int // of what is kept
	told int         // how many numbers Snap has told
	last int         // how many edits were done
	note string
}

// check asks whether a tree is as its history says.
func (h *history) check() {
	h.t.Helper()
	h.now.is(h.t, h.what, h.x)
	s := h.now.stands(h.t, h.what, h.p)
	union := maps.Clone(s.pages)
	for n, m := range h.kept {
		if l, e := h.x.At(n, "", "", -1); !slices.Equal(l, m.span("", "", -1)) || e != api.OK {
			h.t.Errorf("%s: At(%d): %d pairs, %d, not %d", h.what, n, len(l), int(e), len(m))
		}
		maps.Copy(union, seen(h.t, h.p, h.root[n]).pages)
	}
	if h.x.Used() != 1+len(union) || h.x.Note() != h.note {
		h.t.Errorf("%s: Used %d, not %d; Note %q", h.what, h.x.Used(), 1+len(union), h.x.Note())
	}
	if len(s.pages)+1 > 2*len(h.now)+1 || s.lone > 0 {
		h.t.Errorf("%s: %d pages of %d keys, %d with one kid", h.what, len(s.pages), len(h.now), s.lone)
	}
	if h.t.Failed() {
		h.t.FailNow()
	}
}

// apply does edits, that may find no room.
func (h *history) apply(l []api.Edit) {
	h.t.Helper()
	h.last++
	note := fmt.Sprint("note ", h.last)
	ahead := slices.Clone(l)
	switch e := h.x.Apply(l, note); e {
	case api.OK:
		h.now, h.note = h.now.done(l), note
	case api.ErrSpace:
		if len(h.kept) == 0 && len(l) <= 3 && 2*len(h.now)+72 <= h.p.Len() && 2*len(h.now.done(l))+72 <= h.p.Len() {
			h.t.Errorf("%s: no room for %d edits", h.what, len(l))
		}
	default:
		h.t.Fatalf("%s: Apply: %d", h.what, int(e))
	}
	if !slices.Equal(l, ahead) {
		h.t.Errorf("%s: the edits have been changed", h.what)
	}
}

// snap keeps what there is.
func (h *history) snap() {
	h.t.Helper()
	h.told++
	if n, e := h.x.Snap(); n != h.told || e != api.OK {
		h.t.Fatalf("%s: Snap: %d, %d, not %d", h.what, n, int(e), h.told)
	}
	h.kept[h.told], h.root[h.told] = h.now, root(h.t, h.p)
}

// release keeps a number no more, if it is kept.
func (h *history) release(n int) {
	h.t.Helper()
	want := api.ErrNone
	if _, ok := h.kept[n]; ok {
		want = api.OK
	}
	answers(h.t, h.what, h.x.Release(n), want)
	delete(h.kept, n)
	if l, e := h.x.At(n, "", "", -1); len(l) != 0 || e != api.ErrNone {
		h.t.Errorf("%s: At(%d): %d pairs, %d", h.what, n, len(l), int(e))
	}
}

// again opens the tree again, as it was at a Sync.
func (h *history) again() {
	h.t.Helper()
	answers(h.t, h.what, h.x.Sync(), api.OK)
	h.d.Crash(nil)
	h.p = paged(h.t, h.d)
	h.x = opened(h.t, h.p)
	for n := range h.told + 2 {
		answers(h.t, h.what, h.x.Release(n), api.ErrNone)
	}
	h.kept, h.root, h.told = map[int]model{}, map[int]int{}, 0
}

// P10.2 to P10.6, and P10.8: trees by chance, whatever is done to them, have what they should, in as many pages as they say.
func TestHistories(t *testing.T) {
	for seed := range 16 {
		t.Run(fmt.Sprint(seed), func(t *testing.T) {
			t.Parallel()
			c := chance(seed * 977)
			style, many := seed%4, []int{30, 200, 1000}[seed%3]
			count := []int{32, 120, 400, 900}[(seed/4+seed)%4]
			x, p, d := fresh(t, count)
			h := &history{t: t, x: x, p: p, d: d, now: model{}, kept: map[int]model{}, root: map[int]int{}}
			for i := range 400 {
				h.what = fmt.Sprintf("%d, step %d", seed, i)
				switch c.below(16) {
				case 0:
					h.snap()
				case 1:
					h.release(c.below(h.told+3) - 1)
				case 2:
					h.release(h.told)
				case 3:
					answers(t, h.what, h.p.Checkpoint(), api.OK)
				case 4:
					if c.below(8) == 0 {
						h.again()
					}
				case 5:
					h.apply(c.edits(20+c.below(40), style, many))
				default:
					h.apply(c.edits(c.below(5), style, many))
				}
				h.check()
			}
		})
	}
}

// P10.4: numbers count on, are each for what there was then, be it nothing or the same, and end with the tree.
func TestSnap(t *testing.T) {
	x, p, d := fresh(t, 60)
	states := []model{{}}
	for i := range 5 {
		for range 2 {
			n, e := x.Snap()
			if e != api.OK || n != len(states) {
				t.Fatalf("Snap: %d, %d", n, int(e))
			}
			states = append(states, states[len(states)-1])
		}
		l := []api.Edit{put(fmt.Sprint(i), "v"), put("k", fmt.Sprint(i)), cut(fmt.Sprint(i-2), fmt.Sprint(i-1))}
		answers(t, "Apply", x.Apply(l, ""), api.OK)
		states[len(states)-1] = states[len(states)-1].done(l)
	}
	// The i-th number was told ahead of what the states from i on have.
	for n := 1; n < len(states); n++ {
		want := states[n-1]
		for _, c := range []struct {
			from, to string
			most     int
		}{{"", "", -1}, {"1", "k", -5}, {"1", "", 2}, {"k", "", 0}, {"3", "2", -1}} {
			if l, e := x.At(n, c.from, c.to, c.most); !slices.Equal(l, want.span(c.from, c.to, c.most)) || e != api.OK {
				t.Errorf("At(%d, %q, %q, %d): %v, %d, not of %v", n, c.from, c.to, c.most, l, int(e), want)
			}
		}
	}
	for _, n := range []int{0, -1, len(states), math.MinInt, math.MaxInt} {
		if l, e := x.At(n, "", "", -1); len(l) != 0 || e != api.ErrNone {
			t.Errorf("At(%d): %v, %d", n, l, int(e))
		}
		answers(t, "Release", x.Release(n), api.ErrNone)
	}
	answers(t, "Release", x.Release(3), api.OK)
	answers(t, "Release", x.Release(3), api.ErrNone)
	if l, e := x.At(3, "", "", -1); len(l) != 0 || e != api.ErrNone {
		t.Errorf("At(3): %v, %d", l, int(e))
	}
	if n, e := x.Snap(); n != len(states) || e != api.OK {
		t.Errorf("Snap: %d, %d", n, int(e))
	}
	answers(t, "Sync", x.Sync(), api.OK)
	d.Crash(nil)
	p = paged(t, d)
	x = opened(t, p)
	if _, e := x.At(1, "", "", -1); e != api.ErrNone || x.Used() != 1+len(seen(t, p, root(t, p)).pages) {
		t.Errorf("At(1): %d, Used %d", int(e), x.Used())
	}
	if n, e := x.Snap(); n != 1 || e != api.OK {
		t.Errorf("Snap: %d, %d", n, int(e))
	}
}

// P10.5: pages that several have are counted once, and those that none has any more not at all.
func TestUsed(t *testing.T) {
	x, _, _ := fresh(t, 60)
	is := func(what string, want int) {
		t.Helper()
		if x.Used() != want {
			t.Errorf("%s: Used %d, not %d", what, x.Used(), want)
		}
	}
	is("nothing", 1)
	x.Snap()
	is("nothing, kept", 1)
	answers(t, "Apply", x.Apply([]api.Edit{put("a", strings.Repeat("v", 160))}, ""), api.OK)
	is("a leaf", 2)
	x.Snap()
	x.Snap()
	is("a leaf, kept twice", 2)
	answers(t, "Apply", x.Apply(nil, "n"), api.OK)
	is("a leaf, and no edits", 2)
	answers(t, "Apply", x.Apply([]api.Edit{put("b", strings.Repeat("v", 160)), put("c", strings.Repeat("v", 160)), put("d", strings.Repeat("v", 160))}, ""), api.OK)
	is("a leaf that is kept, and two with one above", 5)
	x.Snap()
	answers(t, "Apply", x.Apply([]api.Edit{put("d", strings.Repeat("w", 160))}, ""), api.OK)
	is("another leaf, and one above", 7)
	answers(t, "Release", x.Release(2), api.OK)
	is("a leaf, kept once", 7)
	answers(t, "Release", x.Release(3), api.OK)
	is("a leaf, kept no more", 6)
	answers(t, "Apply", x.Apply([]api.Edit{cut("", "")}, ""), api.OK)
	is("three of what is kept", 4)
	answers(t, "Release", x.Release(1), api.OK)
	is("nothing is kept no more", 4)
	answers(t, "Release", x.Release(4), api.OK)
	is("nothing", 1)
}

// P10.6: in trees of as many keys as there may be for that, made in all orders, three edits have room, be they such as spoil the most.
func TestThreeEdits(t *testing.T) {
	for seed, n := range []int{1979, 1979, 1979, 1200, 300, 40, 5, 1, 0, 1979, 700} {
		t.Run(fmt.Sprint(seed), func(t *testing.T) {
			t.Parallel()
			x, p, d := fresh(t, 2*n+72)
			now := grown(t, x, n, seed)
			c := chance(seed)
			for i := range 200 {
				keys := now.keys()
				l := three(&c, keys, n, seed)
				if len(now.done(l)) > n {
					l[2] = cut("", "")
					if n > 9 {
						l[2].To = keys[len(keys)/2]
					}
				}
				answers(t, "Checkpoint", p.Checkpoint(), api.OK) // so that a page that is written is a write that is loose
				if e := x.Apply(l, ""); e != api.OK {
					t.Fatalf("step %d: %d keys, %v: %d", i, len(now), l, int(e))
				}
				if now = now.done(l); d.Loose() > 64 || x.Used() > 2*len(now)+1 {
					t.Fatalf("step %d: %d pages written, %d used, of %d keys", i, d.Loose(), x.Used(), len(now))
				}
				if i%10 == 0 {
					now.is(t, "behind three edits", x)
					if s := now.stands(t, "behind three edits", p); s.deep > 6 || s.lone > 0 {
						t.Fatalf("%d nodes deep, of %d keys; %d with one kid", s.deep, len(now), s.lone)
					}
				}
				if len(now) < n/3 { // grown again
					now = now.done([]api.Edit{cut("", "")})
					answers(t, "Apply", x.Apply([]api.Edit{cut("", "")}, ""), api.OK)
					now = grown(t, x, n, seed+i)
				}
			}
		})
	}
}

// long tells a key as long as can be.
func long(n int) string {
	return strings.Repeat("k", mostKey-8) + fmt.Sprintf("%08d", n)
}

// grown puts so many long keys into an empty tree: rising, falling, or by turns from far away; one by one, or three at a time.
func grown(t *testing.T, x *tree.Tree, n, order int) model {
	t.Helper()
	m := model{}
	for len(m) < n {
		var l []api.Edit
		for range 1 + 2*(order/3%2) {
			i := len(m) + len(l)
			switch {
			case i >= n:
				continue
			case order%3 == 1:
				i = n - 1 - i
			case order%3 == 2:
				i = i * 1237 % n
			}
			l = append(l, put(long(i*10), strings.Repeat("v", []int{mostVal, 100, 20, 0}[order/2%4])))
		}
		before := len(m)
		for _, d := range l {
			m[d.Key] = d.Value
		}
		if len(m) == before {
			break
		}
		answers(t, "Apply", x.Apply(l, ""), api.OK)
	}
	return m
}

// three tells edits by chance: cuts of few keys and of many, and puts of long and of short ones.
func three(c *chance, keys []string, n, seed int) []api.Edit {
	var l []api.Edit
	for range 3 {
		if len(keys) < 2 || c.below(3) == 0 {
			l = append(l, put(long(c.below(10*n+10)), strings.Repeat("v", c.below(mostVal+1))))
			continue
		}
		i := c.below(len(keys) - 1)
		j := min(len(keys)-1, i+1+c.below([]int{2, 6, 30, 300}[c.below(3+seed%2)]))
		switch c.below(5) {
		case 0:
			l = append(l, put(keys[i], strings.Repeat("w", c.below(mostVal+1))))
		case 1:
			l = append(l, put(keys[i][:1+c.below(len(keys[i]))], "short"))
		default:
			l = append(l, cut(keys[i], keys[j]))
		}
	}
	return l
}

// P10.7: wherever the power goes, and whatever is lost and torn then, the tree is as it was at the last Sync, or at a later moment.
func TestMoments(t *testing.T) {
	for _, seed := range []int{1, 2, 3} {
		t.Run(fmt.Sprint(seed), func(t *testing.T) {
			t.Parallel()
			for steps := 0; ; steps++ {
				fates := [][]int{nil, slices.Repeat([]int{1}, 200), slices.Repeat([]int{2, 3, 0, 1, 1}, 40), slices.Repeat([]int{3, 1, 2}, 70)}
				c := chance(seed*1000 + steps)
				var mixed []int
				for range 200 {
					mixed = append(mixed, c.below(4))
				}
				if dies(t, seed, steps, append(fates, mixed)[steps%5]) {
					break
				}
			}
		})
	}
}

// moment is what a tree had, with its note.
type moment struct {
	m    model
	note string
}

// dies does the same each time, till the power goes behind so many writes and flushes, and asks what is found then; it's true, if the power has not gone.
func dies(t *testing.T, seed, steps int, fates []int) bool {
	t.Helper()
	x, p, d := fresh(t, 60)
	d.Arm(steps)
	moments := []moment{{model{}, ""}}
	c, e := chance(seed), api.OK
	for i := 0; i < 70 && e == api.OK; i++ {
		now := moments[len(moments)-1]
		if c.below(5) == 0 {
			if e = x.Sync(); e == api.OK {
				moments = []moment{now}
			}
			continue
		}
		l := c.edits(1+c.below(3), 1+seed%2, 25)
		if e = x.Apply(l, fmt.Sprint(i)); e == api.OK {
			moments = append(moments, moment{now.m.done(l), fmt.Sprint(i)})
		} else if e == api.ErrPower {
			unturned(t, x, now)
		}
	}
	if e == api.OK {
		return true
	}
	answers(t, fmt.Sprint(steps, " steps"), e, api.ErrPower)
	d.Crash(fates)
	p = paged(t, d)
	x = opened(t, p)
	l, _ := x.Scan("", "", -1)
	at := slices.IndexFunc(moments, func(m moment) bool { return m.note == x.Note() && slices.Equal(l, m.m.span("", "", -1)) })
	if at < 0 {
		t.Fatalf("%d steps: %d keys, Note %q: no moment from the last Sync on", steps, len(l), x.Note())
	}
	// It goes on from there as from anywhere.
	now := moments[at].m
	for range 3 {
		l := c.edits(3, 1+seed%2, 25)
		answers(t, "Apply", x.Apply(l, "on"), api.OK)
		now = now.done(l)
	}
	now.is(t, "behind a crash", x)
	now.stands(t, "behind a crash", p)
	return false
}

// unturned asks whether a tree tells nothing else than ahead of a call that was refused, where it can be read.
func unturned(t *testing.T, x *tree.Tree, now moment) {
	t.Helper()
	l, e := x.Scan("", "", -1)
	if e == api.OK && !slices.Equal(l, now.m.span("", "", -1)) || e != api.OK && (len(l) != 0 || e != api.ErrPower) {
		t.Errorf("behind a refused call: %d pairs, %d", len(l), int(e))
	}
	if x.Len() != len(now.m) || x.Note() != now.note {
		t.Errorf("behind a refused call: Len %d, not %d, Note %q", x.Len(), len(now.m), x.Note())
	}
}

// P10.1 to P10.3: trees as deep as pages are many end, and are found, and changed, where that has room.
func TestDeep(t *testing.T) {
	const many = 4030
	alone := map[int]string{0: first(1), many - 1: leaf("k", "v")} // each node has one kid
	for i := 1; i < many-1; i++ {
		alone[i] = inner(to{"k", i + 1})
	}
	pairs, m := map[int]string{0: first(1)}, model{} // each has a leaf, and one that is deeper
	for i := 1; i < many-2; i += 2 {
		k := fmt.Sprintf("%04d", i)
		pairs[i], pairs[i+1], m[k] = inner(to{k, i + 1}, to{fmt.Sprintf("%04d", i+2), i + 2}), leaf(k, "v"), "v"
	}
	pairs[many-1], m[fmt.Sprintf("%04d", many-1)] = leaf(fmt.Sprintf("%04d", many-1), "v"), "v"
	for what, c := range map[string]struct {
		pages map[int]string
		m     model
	}{"one kid each": {alone, model{"k": "v"}}, "two kids each": {pairs, m}} {
		p, _ := laid(t, many, c.pages)
		x := opened(t, p)
		c.m.is(t, what, x)
		if x.Used() != many {
			t.Errorf("%s: Used %d", what, x.Used())
		}
		last := c.m.keys()[len(c.m)-1]
		l := []api.Edit{put(last+"+", "w")}
		if e := x.Apply(l, ""); e == api.OK {
			c.m = c.m.done(l)
		} else {
			answers(t, what, e, api.ErrSpace)
		}
		c.m.is(t, what, x)
		l = []api.Edit{cut("", last)}
		if e := x.Apply(l, ""); e == api.OK {
			c.m = c.m.done(l)
		} else {
			answers(t, what, e, api.ErrSpace)
		}
		c.m.is(t, what, x)
		answers(t, what, x.Apply([]api.Edit{cut("", "")}, ""), api.OK)
		model{}.is(t, what, x)
	}
}

// Whatever is done to a disk under a tree, its calls end, and tell an error where a node is not to be found.
func TestUnderfoot(t *testing.T) {
	x, p, d := fresh(t, 60)
	answers(t, "Apply", x.Apply(row(20, 10, mostVal), ""), api.OK)
	answers(t, "Checkpoint", p.Checkpoint(), api.OK)
	s := seen(t, p, root(t, p))
	above, _ := d.Read(homeAt + root(t, p))
	for page := range s.pages {
		ahead, _ := d.Read(homeAt + page)
		for what, b := range map[string]string{"junk": strings.Repeat("?", 512), "the root": above, "zeros": strings.Repeat("\x00", 512)} {
			if b == ahead {
				continue
			}
			d.Write(homeAt+page, b)
			if l, e := x.Scan("", "", -1); len(l) != 0 || e != api.ErrRot {
				t.Errorf("%s in page %d: Scan: %d pairs, %d", what, page, len(l), int(e))
			}
			if e := x.Apply(append(row(20, 10, 3), cut("0001", "0018")), ""); e != api.ErrRot {
				t.Errorf("%s in page %d: Apply: %d", what, page, int(e))
			}
		}
		d.Write(homeAt+page, ahead)
	}
	model{}.done(row(20, 10, mostVal)).is(t, "as it was", x)
}
