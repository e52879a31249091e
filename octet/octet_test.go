package octet_test

import (
	"math"
	"slices"
	"strings"
	"testing"

	"decretal/api"
	"decretal/octet"
)

// numbers tells those around which the number of digits, or of bytes, changes, and the ends, each once.
func numbers() []int {
	l := []int{0, math.MaxInt, math.MaxInt - 1, math.MinInt, math.MinInt + 1, 1234567890123456789, -987654321}
	for i := range 63 {
		for d := -2; d <= 2; d++ {
			l = append(l, 1<<i+d, -1<<i+d)
		}
	}
	slices.Sort(l)
	return slices.Compact(l)
}

// written tells a number's bytes by dividing, apart from the way that the package goes.
func written(n int) string {
	c := 2 * uint64(n)
	if n < 0 {
		c = 0 - 2*uint64(n) - 1
	}
	s := ""
	for c >= 128 {
		s += string([]byte{byte(c%128) + 128})
		c /= 128
	}
	return s + string([]byte{byte(c)})
}

// texts tells all texts of up to so many of these bytes.
func texts(bytes string, most int) []string {
	all := []string{""}
	for last := all; most > 0; most-- {
		var next []string
		for _, s := range last {
			for i := range len(bytes) {
				next = append(next, s+bytes[i:i+1])
			}
		}
		all = append(all, next...)
		last = next
	}
	return all
}

// P1.1: a number's bytes.
func TestNum(t *testing.T) {
	for n, want := range map[int]string{
		0: "\x00", -1: "\x01", 1: "\x02", -2: "\x03", 63: "\x7e", -64: "\x7f",
		64: "\x80\x01", -65: "\x81\x01", 127: "\xfe\x01", 128: "\x80\x02",
		8191: "\xfe\x7f", -8192: "\xff\x7f", 8192: "\x80\x80\x01",
		1<<62 - 1:     "\xfe\xff\xff\xff\xff\xff\xff\xff\x7f",
		-1 << 62:      "\xff\xff\xff\xff\xff\xff\xff\xff\x7f",
		1 << 62:       "\x80\x80\x80\x80\x80\x80\x80\x80\x80\x01",
		math.MaxInt:   "\xfe\xff\xff\xff\xff\xff\xff\xff\xff\x01",
		math.MinInt:   "\xff\xff\xff\xff\xff\xff\xff\xff\xff\x01",
		-1<<62 - 1:    "\x81\x80\x80\x80\x80\x80\x80\x80\x80\x01",
		1<<62 + 1<<40: "\x80\x80\x80\x80\x80\xc0\x80\x80\x80\x01",
	} {
		if s := octet.Num(n); s != want {
			t.Errorf("Num(%d): %x, not %x", n, s, want)
		}
	}
	for _, n := range numbers() {
		if s, want := octet.Num(n), written(n); s != want {
			t.Errorf("Num(%d): %x, not %x", n, s, want)
		}
	}
}

// P1.1: a text's bytes, and a list's.
func TestText(t *testing.T) {
	for s, want := range map[string]string{
		"": "\x00", "ab": "\x04ab", "\x00\xff": "\x04\x00\xff",
		strings.Repeat("x", 63): "\x7e" + strings.Repeat("x", 63),
		strings.Repeat("x", 64): "\x80\x01" + strings.Repeat("x", 64),
	} {
		if got := octet.Text(s); got != want {
			t.Errorf("Text(%q): %x, not %x", s, got, want)
		}
	}
	for _, c := range []struct {
		l    []string
		want string
	}{
		{nil, "\x00"},
		{[]string{}, "\x00"},
		{[]string{""}, "\x02\x00"},
		{[]string{"a", "", "bc"}, "\x06\x02a\x00\x04bc"},
		{slices.Repeat([]string{""}, 64), "\x80\x01" + strings.Repeat("\x00", 64)},
		{[]string{strings.Repeat("y", 100), "z"}, "\x04\xc8\x01" + strings.Repeat("y", 100) + "\x02z"},
	} {
		ahead := slices.Clone(c.l)
		if got := octet.Texts(c.l); got != c.want {
			t.Errorf("Texts(%q): %x, not %x", c.l, got, c.want)
		}
		if !slices.Equal(c.l, ahead) {
			t.Errorf("Texts has changed %q to %q", ahead, c.l)
		}
	}
}

// P1.2: what TakeNum refuses, and in which order.
func TestTakeNumRefuses(t *testing.T) {
	nine := strings.Repeat("\xff", 9)
	for s, want := range map[string]api.Errno{
		"":                                  api.ErrShort,
		"\x80":                              api.ErrShort,
		"\xff\x80":                          api.ErrShort,
		nine:                                api.ErrShort,
		strings.Repeat("\x80", 9):           api.ErrShort,
		"\x80\x00":                          api.ErrForm,
		"\x80\x00x":                         api.ErrForm,
		"\x81\x80\x00\x01":                  api.ErrForm,
		nine[1:] + "\x00":                   api.ErrForm,
		nine + "\x00":                       api.ErrForm,
		nine + "\x02":                       api.ErrForm,
		nine + "\x7f":                       api.ErrForm,
		nine + "\x80":                       api.ErrForm,
		nine + "\x81":                       api.ErrForm,
		nine + "\x81\x00":                   api.ErrForm,
		nine + "\x80\x01":                   api.ErrForm,
		nine + nine:                         api.ErrForm,
		strings.Repeat("\x80", 10) + "\x01": api.ErrForm,
	} {
		if n, rest, e := octet.TakeNum(s); n != 0 || rest != "" || e != want {
			t.Errorf("TakeNum(%x): %d, %x, %d, not %d", s, n, rest, int(e), int(want))
		}
	}
}

// P1.2 and P1.5: of each number's bytes all beginnings are too short, and the whole is read, whatever stands behind.
func TestTakeNumBack(t *testing.T) {
	for _, n := range numbers() {
		s := octet.Num(n)
		for _, behind := range []string{"", "\x00", "\x80", "\xff\xff", "yz", s} {
			if m, rest, e := octet.TakeNum(s + behind); m != n || rest != behind || e != api.OK {
				t.Errorf("TakeNum(%x): %d, %x, %d, not %d", s+behind, m, rest, int(e), n)
			}
		}
		for i := range len(s) {
			if m, rest, e := octet.TakeNum(s[:i]); m != 0 || rest != "" || e != api.ErrShort {
				t.Errorf("TakeNum(%x): %d, %x, %d, of what is cut off", s[:i], m, rest, int(e))
			}
		}
	}
}

// P1.5: what is read as a number has just its bytes; what is not read is neither one's bytes nor has such ahead.
func TestTakeNumOneForm(t *testing.T) {
	for _, s := range texts("\x00\x01\x02\x7f\x80\x81\xff", 5) {
		for _, ahead := range []string{"", "\x80\x80\x80\x80\x80\x80", "\xff\xff\xff\xff\xff\xff\xff"} {
			s := ahead + s
			n, rest, e := octet.TakeNum(s)
			if e == api.OK && octet.Num(n)+rest != s {
				t.Fatalf("TakeNum(%x): %d, %x, whose bytes are others", s, n, rest)
			}
			if want := refusal(s); e != want {
				t.Fatalf("TakeNum(%x): %d, not %d", s, int(e), int(want))
			}
		}
	}
}

// refusal tells TakeNum's error by looking for the last byte first, apart from the way that the package goes.
func refusal(s string) api.Errno {
	last := slices.IndexFunc([]byte(s), func(b byte) bool { return b < 128 })
	switch {
	case len(s) > 9 && s[9] > 1 && (last < 0 || last >= 9):
		return api.ErrForm
	case last < 0:
		return api.ErrShort
	case last > 0 && s[last] == 0:
		return api.ErrForm
	}
	return api.OK
}

// P1.3: the texts that TakeText reads, and what it refuses.
func TestTakeText(t *testing.T) {
	long := strings.Repeat("q", 100)
	for _, c := range []struct {
		s          string
		most       int
		text, rest string
		want       api.Errno
	}{
		{"\x00", 0, "", "", api.OK},
		{"\x00z", 0, "", "z", api.OK},
		{"\x04ab", 2, "ab", "", api.OK},
		{"\x04abc", 3, "ab", "c", api.OK},
		{"\x04ab\x04cd", math.MaxInt, "ab", "\x04cd", api.OK},
		{"\xc8\x01" + long + "r", 100, long, "r", api.OK},
		{"", 9, "", "", api.ErrShort},
		{"\x80", 9, "", "", api.ErrShort},
		{"\x80\x00", 9, "", "", api.ErrForm},
		{"\x01", 9, "", "", api.ErrForm},
		{"\x01", -5, "", "", api.ErrForm},
		{octet.Num(math.MinInt) + "ab", 9, "", "", api.ErrForm},
		{"\x06ab", 2, "", "", api.ErrBig},
		{"\x04ab", 1, "", "", api.ErrBig},
		{"\x02a", 0, "", "", api.ErrBig},
		{"\x00", -1, "", "", api.ErrBig},
		{"\x00", math.MinInt, "", "", api.ErrBig},
		{octet.Num(math.MaxInt), math.MaxInt - 1, "", "", api.ErrBig},
		{octet.Num(math.MaxInt) + "ab", math.MaxInt, "", "", api.ErrShort},
		{"\x04a", 2, "", "", api.ErrShort},
		{"\x04", 2, "", "", api.ErrShort},
	} {
		if text, rest, e := octet.TakeText(c.s, c.most); text != c.text || rest != c.rest || e != c.want {
			t.Errorf("TakeText(%x, %d): %q, %q, %d, not %q, %q, %d", c.s, c.most, text, rest, int(e), c.text, c.rest, int(c.want))
		}
	}
}

// P1.3: the lists that TakeTexts reads, and what it refuses, and in which order.
func TestTakeTexts(t *testing.T) {
	for _, c := range []struct {
		s           string
		count, most int
		l           []string
		rest        string
		want        api.Errno
	}{
		{"\x00", 0, 0, nil, "", api.OK},
		{"\x00z", 0, -1, nil, "z", api.OK},
		{"\x06\x02a\x00\x04bc", 3, 2, []string{"a", "", "bc"}, "", api.OK},
		{"\x06\x02a\x00\x04bcd", 4, 9, []string{"a", "", "bc"}, "d", api.OK},
		{"\x04\x00\x00\x00", 2, 0, []string{"", ""}, "\x00", api.OK},
		{"\x80\x01" + strings.Repeat("\x00", 64), math.MaxInt, 0, slices.Repeat([]string{""}, 64), "", api.OK},
		{"", 3, 2, nil, "", api.ErrShort},
		{"\x80", 3, 2, nil, "", api.ErrShort},
		{"\x80\x00", 3, 2, nil, "", api.ErrForm},
		{"\x01", 3, 2, nil, "", api.ErrForm},
		{"\x01", -7, 2, nil, "", api.ErrForm},
		{"\x00", -1, 2, nil, "", api.ErrBig},
		{"\x06\x02a\x00\x04bc", 2, 2, nil, "", api.ErrBig},
		{"\x06", 2, 2, nil, "", api.ErrBig},
		{"\x06\x02a\x00\x04bc", 3, 1, nil, "", api.ErrBig},
		{"\x06\x02a\x00\x04b", 3, 2, nil, "", api.ErrShort},
		{"\x06\x02a\x00", 3, 2, nil, "", api.ErrShort},
		{"\x02\x01", 3, 2, nil, "", api.ErrForm},
		{"\x04\x02a\x80\x00", 3, 2, nil, "", api.ErrForm},
		// The first text's error is told, whatever the next one's is.
		{"\x04\x06abc\x01", 3, 2, nil, "", api.ErrBig},
		{"\x04\x01\x06abc", 3, 2, nil, "", api.ErrForm},
		// There are not so many bytes, nor room for so many texts.
		{octet.Num(math.MaxInt) + "\x00\x00", math.MaxInt, 2, nil, "", api.ErrShort},
		{octet.Num(math.MinInt) + "\x00\x00", math.MaxInt, 2, nil, "", api.ErrForm},
	} {
		l, rest, e := octet.TakeTexts(c.s, c.count, c.most)
		if !slices.Equal(l, c.l) || rest != c.rest || e != c.want {
			t.Errorf("TakeTexts(%x, %d, %d): %q, %q, %d, not %q, %q, %d", c.s, c.count, c.most, l, rest, int(e), c.l, c.rest, int(c.want))
		}
	}
}

// P1.5: texts and lists that were written are read, whatever stands behind; of what is cut off none is.
func TestTextsBack(t *testing.T) {
	for _, one := range []string{"", "a", "\x00", "\x80\x80", strings.Repeat("k", 63), strings.Repeat("k", 64), strings.Repeat("k", 9000)} {
		s := octet.Text(one)
		for _, behind := range []string{"", "\x00", "\xff", "more"} {
			if text, rest, e := octet.TakeText(s+behind, len(one)); text != one || rest != behind || e != api.OK {
				t.Errorf("TakeText of Text of %d bytes: %d bytes, %q, %d", len(one), len(text), rest, int(e))
			}
		}
		for i := range len(s) {
			if text, rest, e := octet.TakeText(s[:i], len(one)); text != "" || rest != "" || e != api.ErrShort {
				t.Errorf("TakeText of %d of %d bytes: %q, %q, %d", i, len(s), text, rest, int(e))
			}
		}
		l := []string{one, "", one + "x"}
		s = octet.Texts(l)
		for _, behind := range []string{"", "\x00", "\xff", "more"} {
			if got, rest, e := octet.TakeTexts(s+behind, len(l), len(one)+1); !slices.Equal(got, l) || rest != behind || e != api.OK {
				t.Errorf("TakeTexts of Texts of %d bytes: %d texts, %q, %d", len(one), len(got), rest, int(e))
			}
		}
		for i := range len(s) {
			if got, rest, e := octet.TakeTexts(s[:i], len(l), len(one)+1); len(got) != 0 || rest != "" || e != api.ErrShort {
				t.Errorf("TakeTexts of %d of %d bytes: %q, %q, %d", i, len(s), got, rest, int(e))
			}
		}
	}
}

// P1.5: what is read as a text, or as a list, has just these bytes; an error comes alone.
func TestTextsOneForm(t *testing.T) {
	read := 0
	for _, s := range texts("\x00\x01\x02\x04\x06\x80", 6) {
		text, rest, e := octet.TakeText(s, 2)
		if e == api.OK && octet.Text(text)+rest != s || e != api.OK && text+rest != "" {
			t.Fatalf("TakeText(%x): %x, %x, %d", s, text, rest, int(e))
		}
		l, rest, e := octet.TakeTexts(s, 3, 2)
		if e == api.OK && octet.Texts(l)+rest != s || e != api.OK && (len(l) != 0 || rest != "") {
			t.Fatalf("TakeTexts(%x): %x, %x, %d", s, l, rest, int(e))
		}
		if e == api.OK {
			read++
		}
	}
	if read == 0 {
		t.Error("no list was read")
	}
}

// P1.4: a number's lowest bytes.
func TestFixed(t *testing.T) {
	for _, c := range []struct {
		n, bytes int
		want     string
	}{
		{5, 0, ""}, {5, -1, ""}, {5, math.MinInt, ""},
		{5, 1, "\x05"}, {5, 2, "\x00\x05"}, {256, 1, "\x00"}, {0x1234, 1, "\x34"},
		{0x123456, 2, "\x34\x56"}, {-2, 3, "\xff\xff\xfe"},
		{0x0123456789abcdef, 7, "\x23\x45\x67\x89\xab\xcd\xef"},
		{0x0123456789abcdef, 8, "\x01\x23\x45\x67\x89\xab\xcd\xef"},
		{0x0123456789abcdef, 9, "\x01\x23\x45\x67\x89\xab\xcd\xef"},
		{5, math.MaxInt, "\x00\x00\x00\x00\x00\x00\x00\x05"},
		{-1, 8, "\xff\xff\xff\xff\xff\xff\xff\xff"},
		{math.MinInt, 8, "\x80\x00\x00\x00\x00\x00\x00\x00"},
	} {
		if s := octet.Fixed(c.n, c.bytes); s != c.want {
			t.Errorf("Fixed(%d, %d): %x, not %x", c.n, c.bytes, s, c.want)
		}
	}
}

// P1.4: the number of bytes.
func TestRead(t *testing.T) {
	for s, want := range map[string]int{
		"": 0, "\x00": 0, "\x07": 7, "\xff": 255, "\x01\x00": 256, "\x80\x00\x00": 1 << 23,
		"\xff\xff\xff\xff\xff\xff\xff":             1<<56 - 1,
		"\x01\x23\x45\x67\x89\xab\xcd\xef":         0x0123456789abcdef,
		"\x01\x23\x45\x67\x89\xab\xcd\xef\xff\xff": 0x0123456789abcdef,
		"\x7f\xff\xff\xff\xff\xff\xff\xff":         math.MaxInt,
		"\x80\x00\x00\x00\x00\x00\x00\x00":         math.MinInt,
		"\xff\xff\xff\xff\xff\xff\xff\xfex":        -2,
	} {
		if n := octet.Read(s); n != want {
			t.Errorf("Read(%x): %d, not %d", s, n, want)
		}
	}
}

// P1.5: what Fixed writes with eight bytes is read, and a number from 0 on with as many bytes as it fills.
func TestFixedBack(t *testing.T) {
	for _, n := range numbers() {
		if m := octet.Read(octet.Fixed(n, 8) + "behind"); m != n {
			t.Errorf("Read of Fixed(%d, 8): %d", n, m)
		}
		for bytes := range 8 {
			if m, want := octet.Read(octet.Fixed(n, bytes)), n&(1<<(8*bytes)-1); m != want {
				t.Errorf("Read of Fixed(%d, %d): %d, not %d", n, bytes, m, want)
			}
		}
	}
}

// P1.6: no number's bytes are the beginning of another one's. In order such two would have only others of the first one's kind between them, so neighbours are enough.
func TestFirst(t *testing.T) {
	var l []string
	for _, n := range numbers() {
		l = append(l, octet.Num(n))
	}
	for n := -20000; n <= 20000; n += 3 {
		l = append(l, octet.Num(n))
	}
	slices.Sort(l)
	l = slices.Compact(l)
	for i := range len(l) - 1 {
		if l[i] == "" || strings.HasPrefix(l[i+1], l[i]) {
			t.Errorf("%x is the beginning of %x", l[i], l[i+1])
		}
	}
}
