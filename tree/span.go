package tree

// span is the keys from one on, below another one; to the end, if that is empty.
type span struct{ from, to string }

// only tells the span of one key: there is none between it and itself with a byte 0 behind.
func only(key string) span {
	return span{key, key + "\x00"}
}

// ends tells whether neither a key nor one behind it is in the span.
func (s span) ends(key string) bool {
	return s.to != "" && key >= s.to
}

// has tells whether a key is in the span.
func (s span) has(key string) bool {
	return key >= s.from && !s.ends(key)
}

// misses tells whether no key from least on, below end (or to the end, if that is empty), is in the span.
func (s span) misses(least, end string) bool {
	return s.ends(least) || end != "" && end <= s.from
}

// covers tells whether all of them are.
func (s span) covers(least, end string) bool {
	return s.from <= least && (s.to == "" || end != "" && end <= s.to)
}
