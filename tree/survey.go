package tree

import (
	"strings"

	"decretal/api"
	"decretal/node"
	"decretal/octet"
	"decretal/pages"
)

// survey is what is seen of a tree's pages when it's opened.
type survey struct {
	p    *pages.Pages
	used usage
	fail api.Errno // of the first page that could not be read
}

// Open tells the tree of pages.
func Open(p *pages.Pages) (*Tree, api.Errno) {
	first, e := p.Read(rootPage)
	if e != api.OK {
		return nil, e
	}
	s := survey{p: p, used: usage{}}
	root := octet.Read(first[:numberBytes])
	e = attempt(func() {
		if strings.Trim(first[numberBytes:], "\x00") != "" {
			panic(api.ErrRot)
		}
		if root != noPage {
			s.visit(root, "", "")
		}
		must(s.fail)
	})
	if e != api.OK {
		return nil, e
	}
	s.used.hold(root)
	return &Tree{p: p, root: root, used: s.used, kept: map[int]int{}}, api.OK
}

// read tells a page's node; false, if the page can't be read. That isn't handed up at once, as rot is told ahead of it, wherever it's seen.
func (s *survey) read(page int) (api.Node, bool) {
	text, e := s.p.Read(page)
	if e != api.OK {
		if s.fail == api.OK {
			s.fail = e
		}
		return api.Node{}, false
	}
	n, e := node.Take(text)
	if e != api.OK {
		panic(api.ErrRot)
	}
	return n, true
}

// within tells whether a node's least key is this one (whichever, if least is empty), and all its keys are below end (wherever, if that is empty).
func within(n api.Node, least, end string) bool {
	last := n.L[len(n.L)-1].Key
	return (least == "" || node.Least(n) == least) && (end == "" || last < end)
}

// visit takes in a page, and all under it, if it may be where it's named: with these keys, and once.
func (s *survey) visit(page int, least, end string) {
	if _, twice := s.used[page]; twice || page < firstPage || page >= s.p.Len() {
		panic(api.ErrRot)
	}
	s.used[page] = &use{} // what is under it must not name it
	n, ok := s.read(page)
	switch {
	case !ok:
		return
	case !within(n, least, end):
		panic(api.ErrRot)
	case !n.Leaf:
		for i, p := range n.L {
			s.visit(kid(p), p.Key, next(n.L, i, end))
		}
	}
	s.used.add(page, n)
}

// next tells below what all keys under the i-th pair are, if those under all of the pairs are below end.
func next(l []api.Pair, i int, end string) string {
	if i+1 < len(l) {
		return l[i+1].Key
	}
	return end
}
