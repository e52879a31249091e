package node_test

import (
	"fmt"
	"math"
	"slices"
	"strings"
	"testing"

	"decretal/api"
	"decretal/node"
)

const kid = "\x00\x01\x02\x03"

// number tells a number's bytes by dividing, apart from the way that the package goes. (Only from 0 on.)
func number(n int) string {
	s := ""
	for n *= 2; n >= 128; n /= 128 {
		s += string([]byte{byte(n%128) + 128})
	}
	return s + string([]byte{byte(n)})
}

// laid tells a node's bytes by the document's words, of a first byte, a number of pairs that it is said to have, and pairs.
func laid(first byte, count string, l ...api.Pair) string {
	s := string([]byte{first}) + count
	for _, p := range l {
		s += number(len(p.Key)) + p.Key + number(len(p.Value)) + p.Value
	}
	return s
}

// bytesOf tells a node's bytes by the document's words.
func bytesOf(n api.Node) string {
	if n.Leaf {
		return laid(1, number(len(n.L)), n.L...)
	}
	return laid(2, number(len(n.L)), n.L...)
}

// filled puts zeros behind up to a page's length.
func filled(s string) string {
	return s + strings.Repeat("\x00", max(0, 480-len(s)))
}

// same tells whether two nodes are.
func same(n, m api.Node) bool {
	return n.Leaf == m.Leaf && slices.Equal(n.L, m.L)
}

// copied tells a node of memory of its own.
func copied(n api.Node) api.Node {
	return api.Node{Leaf: n.Leaf, L: slices.Clone(n.L)}
}

// row tells a node of so many pairs: its keys rise and have so many bytes (8 at least), and, if it is a leaf, its values so many.
func row(leaf bool, count, key, value int) api.Node {
	n := api.Node{Leaf: leaf}
	for i := range count {
		p := api.Pair{Key: fmt.Sprintf("%08d", 2*i) + strings.Repeat("k", key-8), Value: fmt.Sprintf("%4d", i%10000)}
		if leaf {
			p.Value = strings.Repeat(string([]byte{byte(i)}), value)
		}
		n.L = append(n.L, p)
	}
	return n
}

// short tells a node of so many pairs (at most 256), whose keys have one byte, and, if it is a leaf, whose values have none.
func short(leaf bool, count int) api.Node {
	n := api.Node{Leaf: leaf}
	for i := range count {
		p := api.Pair{Key: string([]byte{byte(i)})}
		if !leaf {
			p.Value = kid
		}
		n.L = append(n.L, p)
	}
	return n
}

// chance tells numbers that look like nothing in particular, and are the same each time.
type chance uint64

// below tells the next one, from 0 on, below n.
func (c *chance) below(n int) int {
	*c = *c*6364136223846793005 + 1442695040888963407
	return int(uint64(*c)>>33) % n
}

// text tells so many bytes of a few kinds.
func (c *chance) text(length int) string {
	b := make([]byte, length)
	for i := range b {
		b[i] = "\x00\x01az\x7f\x80\xff"[c.below(7)]
	}
	return string(b)
}

// node tells a right node of at most so many pairs, of keys and values of at most so many bytes.
func (c *chance) node(pairs, key, value int) api.Node {
	n := api.Node{Leaf: c.below(2) == 0}
	keys := map[string]bool{}
	for range 1 + c.below(pairs) {
		keys[c.text(1+c.below(key))] = true
	}
	for k := range keys {
		n.L = append(n.L, api.Pair{Key: k})
	}
	slices.SortFunc(n.L, func(p, q api.Pair) int { return strings.Compare(p.Key, q.Key) })
	for i := range n.L {
		n.L[i].Value = c.text(4)
		if n.Leaf {
			n.L[i].Value = c.text(c.below(value + 1))
		}
	}
	return n
}

// rightNodes tells nodes that are right: ordinary ones, those at the limits, and greater ones than a page.
func rightNodes() map[string]api.Node {
	m := map[string]api.Node{
		"the document's":              {Leaf: true, L: []api.Pair{{Key: "a", Value: "x"}}},
		"one kid":                     {L: []api.Pair{{Key: "a", Value: kid}}},
		"least key":                   {Leaf: true, L: []api.Pair{{Key: "\x00"}}},
		"zeros":                       {Leaf: true, L: []api.Pair{{Key: "\x00", Value: "\x00\x00"}, {Key: "\x00\x00"}, {Key: "\x00\x01", Value: "\x00"}}},
		"beginnings, and high bytes":  {Leaf: true, L: []api.Pair{{Key: "A"}, {Key: "a"}, {Key: "aa"}, {Key: "ab"}, {Key: "b"}, {Key: "\x7f"}, {Key: "\x80"}, {Key: "\xc3\xa9"}, {Key: "\xff"}, {Key: "\xff\xff"}}},
		"kids, and high bytes":        {L: []api.Pair{{Key: "a", Value: "\xff\xff\xff\xff"}, {Key: "\x80", Value: "\x00\x00\x00\x00"}, {Key: "\xff", Value: kid}}},
		"longest key":                 row(true, 1, 48, 0),
		"longest value":               row(true, 1, 8, 160),
		"longest key and value":       row(true, 1, 48, 160),
		"two longest":                 row(true, 2, 48, 160),
		"three longest":               row(true, 3, 48, 160),
		"longest key of a kid":        row(false, 1, 48, 0),
		"8 longest keys of kids":      row(false, 8, 48, 0),
		"9 longest keys of kids":      row(false, 9, 48, 0),
		"a value of 63":               row(true, 1, 8, 63),
		"a value of 64":               row(true, 1, 8, 64),
		"63 pairs, below a page":      short(true, 63),
		"64 pairs, below a page":      short(true, 64),
		"159 pairs, a page just":      short(true, 159),
		"160 pairs":                   short(true, 160),
		"256 pairs":                   short(true, 256),
		"68 kids, a byte below":       short(false, 68),
		"69 kids":                     short(false, 69),
		"256 kids":                    short(false, 256),
		"many":                        row(true, 1000, 8, 9),
		"many kids":                   row(false, 1000, 20, 0),
		"many of long values":         row(true, 99, 9, 160),
		"a page just, of few":         {Leaf: true, L: []api.Pair{{Key: "a", Value: strings.Repeat("v", 160)}, {Key: "b", Value: strings.Repeat("w", 160)}, {Key: "c", Value: strings.Repeat("x", 146)}}},
		"a byte beyond a page":        {Leaf: true, L: []api.Pair{{Key: "a", Value: strings.Repeat("v", 160)}, {Key: "b", Value: strings.Repeat("w", 160)}, {Key: "c", Value: strings.Repeat("x", 147)}}},
		"the number's byte beyond it": beyondByNumber(),
	}
	c := chance(9)
	for i := range 200 {
		m[fmt.Sprint("by chance ", i)] = c.node(1+c.below(60), 1+c.below(48), c.below(161))
	}
	return m
}

// beyondByNumber tells a leaf of 481 bytes, that would have 480 if its number of pairs, 64, had one byte.
func beyondByNumber() api.Node {
	n := short(true, 64)
	for i := range 63 {
		n.L[i].Value = "1234"
	}
	n.L[63].Value = strings.Repeat("y", 34)
	return n
}

// wrongNodes tells nodes that are not right.
func wrongNodes() map[string]api.Node {
	leaf := func(l ...api.Pair) api.Node { return api.Node{Leaf: true, L: l} }
	inner := func(l ...api.Pair) api.Node { return api.Node{L: l} }
	m := map[string]api.Node{
		"nothing":                {},
		"a leaf of nothing":      {Leaf: true},
		"an empty list":          {L: []api.Pair{}},
		"no key":                 leaf(api.Pair{Value: "x"}),
		"no key of a kid":        inner(api.Pair{Value: kid}),
		"no key ahead":           leaf(api.Pair{}, api.Pair{Key: "a"}),
		"no key behind":          leaf(api.Pair{Key: "a"}, api.Pair{}),
		"a key of 49":            row(true, 1, 49, 0),
		"a kid's key of 49":      row(false, 1, 49, 0),
		"a value of 161":         row(true, 1, 8, 161),
		"a long key, the last":   leaf(api.Pair{Key: "a"}, api.Pair{Key: strings.Repeat("b", 49)}),
		"a long value, the last": leaf(api.Pair{Key: "a"}, api.Pair{Key: "b", Value: strings.Repeat("v", 161)}),
		"keys that fall":         leaf(api.Pair{Key: "b"}, api.Pair{Key: "a"}),
		"keys twice":             leaf(api.Pair{Key: "a"}, api.Pair{Key: "a", Value: "x"}),
		"kids' keys that fall":   inner(api.Pair{Key: "b", Value: kid}, api.Pair{Key: "a", Value: kid}),
		"kids' keys twice":       inner(api.Pair{Key: "a", Value: kid}, api.Pair{Key: "a", Value: kid}),
		"a beginning behind":     leaf(api.Pair{Key: "ab"}, api.Pair{Key: "a"}),
		"high bytes ahead":       leaf(api.Pair{Key: "\x80"}, api.Pair{Key: "a"}),
		"keys that fall at last": leaf(append(short(true, 9).L, api.Pair{Key: "\x07a"})...),
		"wrong, and great":       leaf(append(row(true, 9, 48, 160).L, api.Pair{Key: "0"})...),
		"a very long key":        leaf(api.Pair{Key: strings.Repeat("k", 1<<16)}),
		"a very long value":      leaf(api.Pair{Key: "k", Value: strings.Repeat("v", 1<<16)}),
	}
	for _, length := range []int{0, 1, 3, 5, 8, 160, 161, 500} {
		m[fmt.Sprint("a kid of ", length)] = inner(api.Pair{Key: "a", Value: kid}, api.Pair{Key: "b", Value: strings.Repeat("\x00", length)})
	}
	return m
}

// The document's example.
func TestExample(t *testing.T) {
	n := api.Node{Leaf: true, L: []api.Pair{{Key: "a", Value: "x"}}}
	if s, e := node.Put(n); s != filled("\x01\x02\x02a\x02x") || e != api.OK {
		t.Errorf("Put: %x, %d", s, int(e))
	}
	if i, ok := node.Find(n, "b"); i != 0 || ok {
		t.Errorf("Find: %d, %t", i, ok)
	}
	if node.MaxKey != 48 || node.MaxValue != 160 {
		t.Errorf("MaxKey, MaxValue: %d, %d", node.MaxKey, node.MaxValue)
	}
}

// P9.1, P9.2 and P9.5: a right node has its bytes, and, if these have room, the page of them, which is taken back.
func TestRight(t *testing.T) {
	for name, n := range rightNodes() {
		ahead, s := copied(n), bytesOf(n)
		if size := node.Size(n); size != len(s) {
			t.Errorf("Size of %s: %d, not %d", name, size, len(s))
		}
		if k := node.Least(n); k != n.L[0].Key {
			t.Errorf("Least of %s: %q", name, k)
		}
		want, page := api.OK, filled(s)
		if len(s) > 480 {
			want, page = api.ErrBig, ""
		}
		if e := node.Check(n); e != want {
			t.Errorf("Check of %s: %d, not %d", name, int(e), int(want))
		}
		if got, e := node.Put(n); got != page || e != want {
			t.Errorf("Put of %s: %x, %d, not %x, %d", name, got, int(e), page, int(want))
		}
		if want == api.OK {
			takes(t, name, page, n)
		}
		if !same(n, ahead) {
			t.Errorf("%s has been changed", name)
		}
	}
}

// takes asks whether a page's node is this one, and is of memory of its own.
func takes(t *testing.T, name, page string, n api.Node) {
	t.Helper()
	for range 2 {
		m, e := node.Take(page)
		if !same(m, n) || e != api.OK {
			t.Errorf("Take of %s: %v, %d", name, m, int(e))
		}
		for i := range m.L {
			m.L[i] = api.Pair{}
		}
	}
}

// P9.1: sizes of nodes at the edge of a page.
func TestEdges(t *testing.T) {
	nodes := rightNodes()
	for name, want := range map[string]int{
		"the document's": 6, "159 pairs, a page just": 480, "160 pairs": 483, "a page just, of few": 480, "a byte beyond a page": 481,
		"the number's byte beyond it": 481, "68 kids, a byte below": 479, "8 longest keys of kids": 434, "9 longest keys of kids": 488,
	} {
		n := nodes[name]
		if size := node.Size(n); size != want {
			t.Errorf("Size of %s: %d, not %d", name, size, want)
		}
		if e := node.Check(n); (e == api.OK) != (want <= 480) {
			t.Errorf("Check of %s: %d", name, int(e))
		}
	}
}

// P9.1, P9.2 and P9.4: what is answered of a node that is not right.
func TestWrong(t *testing.T) {
	for name, n := range wrongNodes() {
		ahead := copied(n)
		if e := node.Check(n); e != api.ErrArg {
			t.Errorf("Check of %s: %d", name, int(e))
		}
		if s, e := node.Put(n); s != "" || e != api.ErrArg {
			t.Errorf("Put of %s: %x, %d", name, s, int(e))
		}
		if l := node.Parts(n); len(l) != 0 {
			t.Errorf("Parts of %s: %v", name, l)
		}
		if size, want := node.Size(n), len(bytesOf(n)); size != want {
			t.Errorf("Size of %s: %d, not %d", name, size, want)
		}
		least := ""
		if len(n.L) > 0 {
			least = n.L[0].Key
		}
		if k := node.Least(n); k != least {
			t.Errorf("Least of %s: %q, not %q", name, k, least)
		}
		// Of these Find ends; what it tells nobody says.
		for _, k := range []string{"", "a", "b", "\xff"} {
			node.Find(n, k)
		}
		if !same(n, ahead) {
			t.Errorf("%s has been changed", name)
		}
	}
}

// P9.2: bytes of a node that is not right are no page's, nor is a page of another length, or with anything behind the node's bytes.
func TestTakeRefuses(t *testing.T) {
	pages := map[string]string{
		"nothing": "", "zeros": filled(""), "a mark alone": "\x01", "ones": strings.Repeat("\x01", 480), "high bytes": strings.Repeat("\xff", 480),
	}
	for name, n := range wrongNodes() {
		pages[name] = filled(bytesOf(n))
	}
	for name, n := range rightNodes() {
		s := bytesOf(n)
		if len(s) > 480 {
			pages[name] = s
			pages[name+", cut"] = s[:480]
			continue
		}
		page := filled(s)
		pages[name+", too short"] = page[:479]
		pages[name+", too long"] = page + "\x00"
		pages[name+", twice"] = page + page
		if len(s) < 480 {
			pages[name+", the bytes alone"] = s
			pages[name+", and a byte behind"] = filled(s + "\x01")
			pages[name+", and a last byte"] = page[:479] + "\x80"
		}
	}
	for name, page := range pages {
		refuses(t, name, page)
	}
}

// refuses asks whether a page is none's.
func refuses(t *testing.T, name, page string) {
	t.Helper()
	if n, e := node.Take(page); n.Leaf || len(n.L) != 0 || e != api.ErrForm {
		t.Errorf("Take of %s: %v, %d", name, n, int(e))
	}
}

// P9.2: first bytes and numbers that no node has.
func TestTakeRefusesNumbers(t *testing.T) {
	a, b := api.Pair{Key: "a", Value: kid}, api.Pair{Key: "b", Value: kid}
	for first := range 256 {
		page := filled(laid(byte(first), "\x04", a, b))
		if first == 1 || first == 2 {
			takes(t, fmt.Sprint("a first byte ", first), page, api.Node{Leaf: first == 1, L: []api.Pair{a, b}})
			continue
		}
		refuses(t, fmt.Sprint("a first byte ", first), page)
	}
	most := "\xfe\xff\xff\xff\xff\xff\xff\xff\xff\x01" // 2^63 - 1
	for _, count := range []string{
		"\x00", "\x01", "\x02", "\x03", "\x06", "\x80\x01", "\x84\x00", "\x84\x80\x00", "\x80\x80", most,
		"\xff" + most[1:], "\x84\x80\x80\x80\x80\x80\x80\x80\x80\x02", strings.Repeat("\x80", 11),
	} {
		refuses(t, fmt.Sprintf("a number %x", count), filled(laid(1, count, a, b)))
		refuses(t, fmt.Sprintf("a number %x, of kids", count), filled(laid(2, count, a, b)))
	}
	for _, s := range []string{
		"\x01\x02\x82\x00a\x02x", "\x01\x02\x02a\x82\x00x", "\x01\x02\x03a\x02x", "\x01\x02\x02a\x01", "\x01\x02\x02a" + most,
		"\x01\x02" + most + "a\x02x", "\x01\x02\x02a\x80\x08", "\x01\x02\x01a\x02x",
	} {
		refuses(t, fmt.Sprintf("%x", s), filled(s))
	}
	for at := range 478 {
		page := filled("\x01\x04\x02a\x00")
		page = page[:at] + "\xff\xff" + page[at+2:]
		refuses(t, fmt.Sprint("high bytes at ", at), page)
	}
}

// takeNumber takes a number, from 0 to 480 (no greater one tells of anything that has room in a page), off the front of s, apart from the way that the package goes; false, if none is there in its form.
func takeNumber(s string) (int, string, bool) {
	for n := range 481 {
		if rest, ok := strings.CutPrefix(s, number(n)); ok {
			return n, rest, true
		}
	}
	return 0, "", false
}

// takeNode tells the right node of a page by the document's words, part by part, apart from the way that the package goes.
func takeNode(page string) (api.Node, bool) {
	if len(page) != 480 || page[0] != 1 && page[0] != 2 {
		return api.Node{}, false
	}
	n := api.Node{Leaf: page[0] == 1}
	count, s, ok := takeNumber(page[1:])
	if !ok || count == 0 {
		return api.Node{}, false
	}
	for i := range count {
		var parts [2]string
		for j := range parts {
			var length int
			if length, s, ok = takeNumber(s); !ok || length > len(s) {
				return api.Node{}, false
			}
			parts[j], s = s[:length], s[length:]
		}
		k, v := parts[0], parts[1]
		if k == "" || len(k) > 48 || i > 0 && n.L[i-1].Key >= k || n.Leaf && len(v) > 160 || !n.Leaf && len(v) != 4 {
			return api.Node{}, false
		}
		n.L = append(n.L, api.Pair{Key: k, Value: v})
	}
	return n, strings.Trim(s, "\x00") == ""
}

// P9.2 and P9.5: of pages in which a byte has been turned, those that are a node's are taken, and have just its page; the others are none's.
func TestTurned(t *testing.T) {
	nodes := rightNodes()
	taken, refused := 0, 0
	for _, name := range []string{"the document's", "zeros", "beginnings, and high bytes", "kids, and high bytes", "two longest", "8 longest keys of kids", "64 pairs, below a page", "159 pairs, a page just", "68 kids, a byte below"} {
		page := filled(bytesOf(nodes[name]))
		for at := range page {
			for _, b := range []byte{0, 1, 2, 3, 4, 6, 8, 98, 127, 128, 130, 255, page[at] + 1, page[at] - 1, page[at] ^ 128} {
				turned := page[:at] + string([]byte{b}) + page[at+1:]
				want, ok := takeNode(turned)
				if !ok {
					refused++
					refuses(t, fmt.Sprintf("%s, with %x at %d", name, b, at), turned)
					continue
				}
				taken++
				takes(t, fmt.Sprintf("%s, with %x at %d", name, b, at), turned, want)
				if back, e := node.Put(want); back != turned || e != api.OK {
					t.Errorf("Put of what was taken of %s, with %x at %d: %x, %d", name, b, at, back, int(e))
				}
			}
		}
	}
	if taken < 1000 || refused < 1000 {
		t.Errorf("%d taken, %d refused", taken, refused)
	}
}

// P9.3: keys are found as one finds them that goes through all pairs.
func TestFind(t *testing.T) {
	for name, n := range rightNodes() {
		ahead := copied(n)
		keys := []string{"", "\x00", "a", "b", "\xff", strings.Repeat("\xff", 49)}
		for _, p := range n.L {
			k := p.Key
			keys = append(keys, k, k[:len(k)-1], k+"\x00", k+"\xff", k[:len(k)-1]+string([]byte{k[len(k)-1] + 1}), k[:len(k)-1]+string([]byte{k[len(k)-1] - 1}))
		}
		for _, k := range keys {
			want, there := -1, false
			for i, p := range n.L {
				if p.Key <= k {
					want, there = i, p.Key == k
				}
			}
			if i, ok := node.Find(n, k); i != want || ok != there {
				t.Errorf("Find in %s, %q: %d, %t, not %d, %t", name, k, i, ok, want, there)
			}
		}
		if !same(n, ahead) {
			t.Errorf("%s has been changed", name)
		}
	}
}

// fewest tells with how many pages a node's pairs can do, by trying each last page.
func fewest(n api.Node) int {
	least := []int{0} // of the first i pairs
	for to := 1; to <= len(n.L); to++ {
		best := math.MaxInt
		for from := to - 1; from >= 0; from-- {
			if len(bytesOf(api.Node{Leaf: n.Leaf, L: n.L[from:to]})) > 480 {
				break
			}
			best = min(best, least[from]+1)
		}
		least = append(least, best)
	}
	return least[len(n.L)]
}

// P9.4: parts are right, of the node's kind, have its pairs, in order, and are as few as can be, but for one; a node that has room is its only part.
func TestParts(t *testing.T) {
	for name, n := range rightNodes() {
		ahead := copied(n)
		parts := node.Parts(n)
		var l []api.Pair
		for i, p := range parts {
			if e := node.Check(p); e != api.OK || p.Leaf != n.Leaf {
				t.Errorf("Parts of %s: the part %d: %d, %t", name, i, int(e), p.Leaf)
			}
			l = append(l, p.L...)
		}
		if !slices.Equal(l, n.L) {
			t.Errorf("Parts of %s: %d pairs, not %d, or other ones", name, len(l), len(n.L))
		}
		want := fewest(n)
		if len(parts) > want+1 || want == 1 && len(parts) != 1 {
			t.Errorf("Parts of %s: %d, not %d", name, len(parts), want)
		}
		if !same(n, ahead) {
			t.Errorf("%s has been changed", name)
		}
	}
}

// P9.4: parts share no memory, neither with the node nor with one another.
func TestPartsOwn(t *testing.T) {
	for _, name := range []string{"the document's", "kids, and high bytes", "256 pairs", "many kids"} {
		n := rightNodes()[name]
		ahead, parts := copied(n), node.Parts(n)
		var kept []api.Node
		for _, p := range parts {
			kept = append(kept, copied(p))
		}
		for i := range parts {
			l := parts[i].L
			for j := range l {
				l[j] = api.Pair{Key: "other"}
			}
			for _, behind := range []string{"x", "y"} {
				l = append(l, api.Pair{Key: behind})
			}
			if !same(n, ahead) {
				t.Fatalf("the part %d of %s is the node's memory", i, name)
			}
			for j := i + 1; j < len(parts); j++ {
				if !same(parts[j], kept[j]) {
					t.Fatalf("the part %d of %s is the memory of the part %d", i, name, j)
				}
			}
		}
	}
}

// What stands behind a list's end is not changed.
func TestBehind(t *testing.T) {
	whole := row(true, 40, 8, 20)
	kept := copied(whole)
	n := api.Node{Leaf: true, L: whole.L[:30]}
	node.Check(n)
	node.Size(n)
	node.Put(n)
	node.Find(n, "a")
	node.Least(n)
	node.Parts(n)
	if !same(whole, kept) {
		t.Error("what stands behind a node's pairs has been changed")
	}
}
