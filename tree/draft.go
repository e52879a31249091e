package tree

import (
	"slices"
	"strings"

	"decretal/api"
	"decretal/node"
	"decretal/octet"
	"decretal/pages"
)

// The most bytes that a pair has, with those of its lengths.
const (
	longestPair = 1 + node.MaxKey + 2 + node.MaxValue // of a leaf
	longestKid  = 1 + node.MaxKey + 1 + numberBytes   // of another node
)

// item is a pair of a part; or, if kid is one, what names it, ahead of its having a page.
type item struct {
	api.Pair
	kid *part
}

// part is a node that is new, or was changed.
type part struct {
	leaf  bool
	items []item
}

// node tells a part as a node; what has no page yet is named as page 0, in as many bytes.
func (n *part) node() api.Node {
	told := api.Node{Leaf: n.leaf}
	for _, x := range n.items {
		told.L = append(told.L, x.Pair)
	}
	return told
}

// item tells what names a part.
func (n *part) item() item {
	return item{api.Pair{Key: n.items[0].Key, Value: number(noPage)}, n}
}

// find tells where a part's item of a key stands, or would stand, and whether it's there.
func (n *part) find(key string) (int, bool) {
	return slices.BinarySearchFunc(n.items, key, func(x item, key string) int { return strings.Compare(x.Key, key) })
}

// part tells what an item names, as a part: of a page a new one, which is part of nothing yet.
func (t *Tree) part(x item) *part {
	if x.kid != nil {
		return x.kid
	}
	n := t.node(kid(x.Pair))
	told := &part{leaf: n.Leaf}
	for _, p := range n.L {
		told.items = append(told.items, item{Pair: p})
	}
	return told
}

// put puts a pair under an item.
func (t *Tree) put(x item, p api.Pair) item {
	n := t.part(x)
	i, there := n.find(p.Key)
	switch {
	case !n.leaf && there:
		n.items[i] = t.put(n.items[i], p)
	case !n.leaf:
		i = max(i-1, 0)
		n.items[i] = t.put(n.items[i], p)
	case there:
		n.items[i].Pair = p
	default:
		n.items = slices.Insert(n.items, i, item{Pair: p})
	}
	return n.item()
}

// cut cuts a span out from under an item, whose keys are below end; it's false, if nothing is left there.
func (t *Tree) cut(x item, end string, s span) (item, bool) {
	switch {
	case s.misses(x.Key, end):
		return x, true
	case s.covers(x.Key, end):
		return item{}, false
	}
	n := t.part(x)
	pairs := n.node().L
	var left []item
	for i, y := range n.items {
		stays := !s.has(y.Key)
		if !n.leaf {
			y, stays = t.cut(y, next(pairs, i, end), s)
		}
		if stays {
			left = append(left, y)
		}
	}
	switch {
	case slices.Equal(left, n.items):
		return x, true
	case len(left) == 0:
		return item{}, false
	}
	n.items = left
	return n.item(), true
}

// edit does an edit on a part that has the root as its only item, or none.
func (t *Tree) edit(top *part, d api.Edit) {
	p := api.Pair{Key: d.Key, Value: d.Value}
	switch {
	case len(top.items) == 0 && !d.Cut:
		leaf := &part{leaf: true, items: []item{{Pair: p}}}
		top.items = []item{leaf.item()}
	case len(top.items) == 0:
	case !d.Cut:
		top.items[0] = t.put(top.items[0], p)
	default:
		x, left := t.cut(top.items[0], "", span{d.Key, d.To})
		if top.items[0] = x; !left {
			top.items = nil
		}
	}
}

// thin tells whether a part that is named has less than each part of one that had to be cut. A node that is no leaf, and not thin, has four kids at least: so a tree is not deep.
func (x item) thin() bool {
	if x.kid == nil {
		return false
	}
	longest := longestKid
	if x.kid.leaf {
		longest = longestPair
	}
	return node.Size(x.kid.node()) < (api.PageBytes-longest)/2
}

// join tells what names two parts that stood side by side, as one.
func (t *Tree) join(a, b *part) item {
	n := &part{a.leaf, slices.Concat(a.items, b.items)}
	t.mend(n)
	return n.item()
}

// beside tells the first of both items that are joined for the sake of the i-th: it, and the one behind, if that one is written anyhow, or there is none ahead; else the one ahead, and it.
func (n *part) beside(i int) int {
	if i == 0 || i+1 < len(n.items) && n.items[i+1].kid != nil {
		return i
	}
	return i - 1
}

// weight tells how many bytes an item has in a node.
func weight(x item) int {
	return len(octet.Text(x.Key)) + len(octet.Text(x.Value))
}

// place tells where a part is cut, for its front to be as near as can be to one of so many like pieces.
func (n *part) place(pieces int) int {
	rest := 0 // what such a piece has still room for
	for _, x := range n.items {
		rest += weight(x)
	}
	rest = rest/pieces - weight(n.items[0])
	at := 1
	for ; at+1 < len(n.items); at++ {
		w := weight(n.items[at])
		if 2*rest < w {
			break
		}
		rest -= w
	}
	return at
}

// split tells what names an item's part, cut into such that have room in a page.
func (x item) split() []item {
	if x.kid == nil {
		return []item{x}
	}
	pieces := (node.Size(x.kid.node()) + api.PageBytes - 1) / api.PageBytes
	if pieces == 1 {
		return []item{x}
	}
	l, i := x.kid.items, x.kid.place(pieces)
	front, back := &part{x.kid.leaf, l[:i:i]}, &part{x.kid.leaf, l[i:]}
	return append(front.item().split(), back.item().split()...)
}

// thicken joins what is thin of a part's items with what is beside it. Only in a tree that these calls did not make a leaf may stand beside another node: then that one, if it is thin, makes room for what it names.
func (t *Tree) thicken(n *part) {
	for i := 0; i < len(n.items) && len(n.items) > 1; {
		x := n.items[i]
		if !x.thin() {
			i++
			continue
		}
		at := n.beside(i)
		a, b := t.part(n.items[at]), t.part(n.items[at+1])
		switch {
		case a.leaf == b.leaf:
			n.items = slices.Replace(n.items, at, at+2, t.join(a, b))
			i = at
		case x.kid.leaf:
			i++
		default:
			n.items = slices.Replace(n.items, i, i+1, x.kid.items...)
		}
	}
}

// mend joins what is thin, and splits what is too long, of a part's items, in whose parts that is done.
func (t *Tree) mend(n *part) {
	t.thicken(n)
	var l []item
	for _, x := range n.items {
		l = append(l, x.split()...)
	}
	n.items = l
}

// mendAll mends what is under a part, from the leaves on.
func (t *Tree) mendAll(n *part) {
	for _, x := range n.items {
		if x.kid != nil {
			t.mendAll(x.kid)
		}
	}
	t.mend(n)
}

// edited tells what names the root behind edits: page 0, if there is none.
func (t *Tree) edited(l []api.Edit) item {
	top := &part{}
	if t.root != noPage {
		top.items = []item{{Pair: api.Pair{Value: number(t.root)}}}
	}
	for _, d := range l {
		t.edit(top, d)
	}
	t.mendAll(top)
	for len(top.items) > 1 {
		top = &part{items: []item{top.item()}}
		t.mend(top)
	}
	if len(top.items) == 0 {
		return item{Pair: api.Pair{Value: number(noPage)}}
	}
	x := top.items[0]
	for x.kid != nil && !x.kid.leaf && len(x.kid.items) == 1 {
		x = x.kid.items[0]
	}
	return x
}

// count tells how many parts an item names, itself and under it.
func (x item) count() int {
	if x.kid == nil {
		return 0
	}
	n := 1
	for _, y := range x.kid.items {
		n += y.count()
	}
	return n
}

// free tells so many pages that are not in use, if there are, and they can be written at once, with page 0.
func (t *Tree) free(count int) []int {
	var l []int
	for i := firstPage; i < t.p.Len() && len(l) < count; i++ {
		if _, ok := t.used[i]; !ok {
			l = append(l, i)
		}
	}
	if len(l) < count || 1+count > pages.Ring {
		panic(api.ErrSpace)
	}
	return l
}

// draft is pages that are to be written.
type draft struct {
	free   []int // where there is room for them
	writes []api.Write
	nodes  []api.Node // theirs
}

// lay gives pages to an item's part, and to all under it, those ahead that are named by others; it tells the item's page.
func (d *draft) lay(x item) int {
	if x.kid == nil {
		return kid(x.Pair)
	}
	for i, y := range x.kid.items {
		if y.kid != nil {
			x.kid.items[i].Value = number(d.lay(y))
		}
	}
	page, n := d.free[0], x.kid.node()
	s, e := node.Put(n)
	must(e)
	d.free = d.free[1:]
	d.writes = append(d.writes, api.Write{Page: page, Data: s})
	d.nodes = append(d.nodes, n)
	return page
}
