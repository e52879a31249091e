package tree

import "decretal/api"

// use is what is known of a page in use without reading it.
type use struct {
	by   int   // how many pages in use name it, and how often it's the tree's root, or that of what is kept
	kids []int // which pages it names
	keys int   // how many keys are under it
}

// usage is the pages that are in use, but for page 0, by their numbers.
type usage map[int]*use

// add takes a page with a node in, behind those that it names.
func (m usage) add(page int, n api.Node) {
	u := &use{kids: kids(n)}
	if n.Leaf {
		u.keys = len(n.L)
	}
	for _, i := range u.kids {
		u.keys += m.keys(i)
		m.hold(i)
	}
	m[page] = u
}

// keys tells how many keys are under a page; none, if it's not in use.
func (m usage) keys(page int) int {
	if u, ok := m[page]; ok {
		return u.keys
	}
	return 0
}

// hold takes note that a page, if it's in use, is named once more.
func (m usage) hold(page int) {
	if u, ok := m[page]; ok {
		u.by++
	}
}

// drop takes note that a page, if it's in use, is named once less: where nothing names it any more, it goes, and names nothing either.
func (m usage) drop(page int) {
	u, ok := m[page]
	if !ok {
		return
	}
	if u.by--; u.by > 0 {
		return
	}
	delete(m, page)
	for _, i := range u.kids {
		m.drop(i)
	}
}
