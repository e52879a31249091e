package value_test

import (
	"fmt"
	"math"
	"slices"
	"strings"
	"testing"

	"decretal/api"
	"decretal/value"
)

const mostText = 40

var null = api.Value{}

func number(n int) api.Value  { return api.Value{Kind: api.KInt, N: n} }
func text(s string) api.Value { return api.Value{Kind: api.KText, S: s} }
func truth(n int) api.Value   { return api.Value{Kind: api.KBool, N: n} }

// numbers tells those around which the number of digits, in tens or in bytes, changes, and the ends, each once, rising.
func numbers() []int {
	l := []int{0, math.MaxInt, math.MaxInt - 1, math.MinInt, math.MinInt + 1}
	for i := range 63 {
		for d := -1; d <= 1; d++ {
			l = append(l, 1<<i+d, -1<<i+d)
		}
	}
	for n := 10; n < math.MaxInt/10; n *= 10 {
		l = append(l, n-1, n, n+1, -n-1, -n, 1-n)
	}
	slices.Sort(l)
	return slices.Compact(l)
}

// texts tells such that may be, each once, byte by byte.
func texts() []string {
	l := []string{
		"", "null", "true", "false", "0", "-1", "null\"", "\"null\"", "\"\"", "a\\\"b", "not(< 5)",
		strings.Repeat("x", mostText-1), strings.Repeat("x", mostText),
		strings.Repeat("\"", mostText), strings.Repeat("\\", mostText), strings.Repeat("~", mostText), strings.Repeat(" ", mostText),
	}
	for b := 32; b <= 126; b++ {
		s := string(rune(b))
		l = append(l, s, s+s, "a"+s, s+"a", "a"+s+"a")
	}
	for _, a := range []string{"", "\"", "\\", " ", "n"} {
		for _, b := range []string{"\"", "\\", " ", "n"} {
			for _, c := range []string{"\"", "\\", " ", "n"} {
				l = append(l, a+b+c)
			}
		}
	}
	slices.Sort(l)
	return slices.Compact(l)
}

// rights tells values that are right, each once, in their order.
func rights() []api.Value {
	l := []api.Value{null}
	for _, n := range numbers() {
		l = append(l, number(n))
	}
	for _, s := range texts() {
		l = append(l, text(s))
	}
	return append(l, truth(0), truth(1))
}

// wrongTexts tells texts that no value may have.
func wrongTexts() []string {
	l := []string{
		strings.Repeat("x", mostText+1), strings.Repeat("x", 100000), strings.Repeat("\"", mostText+1),
		strings.Repeat("x", mostText) + "\n", strings.Repeat("x", mostText-1) + "\n", "\n" + strings.Repeat("x", mostText-1),
		"\u00e9", "a\u20acb", "\U0001f600", "\ufffd", "\u0141", "\xe2\x82", "\xc1\xa1", "\xed\xa0\x80", strings.Repeat("\u0141", mostText/2),
	}
	for b := range 256 {
		if s := string([]byte{byte(b)}); b < 32 || b > 126 {
			l = append(l, s, "a"+s, s+"a", "a"+s+"a")
		}
	}
	return l
}

// wrongs tells values that are not right.
func wrongs() []api.Value {
	l := []api.Value{
		{Kind: api.KNull, N: 1, S: "x"}, {Kind: api.KInt, N: 1, S: "1"}, {Kind: api.KBool, N: 1, S: "true"}, {Kind: api.KBool, N: 2, S: "x"},
	}
	for _, n := range numbers() {
		if n != 0 {
			l = append(l, api.Value{Kind: api.KNull, N: n}, api.Value{Kind: api.KText, N: n}, api.Value{Kind: api.KText, N: n, S: "a"})
		}
		if n != 0 && n != 1 {
			l = append(l, truth(n))
		}
		if n < 0 || n > 3 {
			l = append(l, api.Value{Kind: api.Kind(n)}, api.Value{Kind: api.Kind(n), N: 1}, api.Value{Kind: api.Kind(n), S: "a"})
		}
	}
	for _, s := range append(texts(), wrongTexts()...) {
		if s != "" {
			l = append(l, api.Value{Kind: api.KNull, S: s}, api.Value{Kind: api.KInt, S: s}, api.Value{Kind: api.KBool, S: s}, api.Value{Kind: api.KBool, N: 1, S: s})
		}
	}
	for _, s := range wrongTexts() {
		l = append(l, text(s))
	}
	return l
}

// written tells a value's text by the chapter's words, apart from the way that the package goes.
func written(v api.Value) string {
	switch v.Kind {
	case api.KInt:
		return fmt.Sprint(v.N)
	case api.KText:
		return "\"" + strings.NewReplacer("\"", "\\\"", "\\", "\\\\").Replace(v.S) + "\""
	case api.KBool:
		return []string{"false", "true"}[v.N]
	}
	return "null"
}

// num tells a number's bytes by dividing.
func num(n int) string {
	c := 2 * uint64(n)
	if n < 0 {
		c = 0 - 2*uint64(n) - 1
	}
	s := ""
	for ; c >= 128; c /= 128 {
		s += string([]byte{byte(c%128) + 128})
	}
	return s + string([]byte{byte(c)})
}

// laid tells a value's bytes by the chapter's words, of a right one or not.
func laid(v api.Value) string {
	switch v.Kind {
	case api.KInt, api.KBool:
		return num(int(v.Kind)) + num(v.N)
	case api.KText:
		return num(int(v.Kind)) + num(len(v.S)) + v.S
	}
	return num(int(v.Kind))
}

// laidRow tells a row's bytes by the chapter's words.
func laidRow(l []api.Value) string {
	s := num(len(l))
	for _, v := range l {
		s += laid(v)
	}
	return s
}

// behinds tells what may stand behind.
func behinds() []string {
	return []string{"", "\x00", "\x80", "\xff\xff", "yz", "\x04\x02a"}
}

// takes asks whether Take answers that value and that rest, or that error alone.
func takes(t *testing.T, s string, v api.Value, rest string, want api.Errno) {
	t.Helper()
	if got, behind, e := value.Take(s); got != v || behind != rest || e != want {
		t.Errorf("Take(%x): %+v, %x, %d, not %+v, %x, %d", s, got, behind, int(e), v, rest, int(want))
	}
}

// takesRow asks whether TakeRow answers those values and that rest, or that error alone.
func takesRow(t *testing.T, s string, most int, l []api.Value, rest string, want api.Errno) {
	t.Helper()
	if got, behind, e := value.TakeRow(s, most); !slices.Equal(got, l) || behind != rest || e != want {
		t.Errorf("TakeRow(%x, %d): %+v, %x, %d, not %+v, %x, %d", s, most, got, behind, int(e), l, rest, int(want))
	}
}

// Example 1 of the chapter.
func TestExample(t *testing.T) {
	if s, e := value.Text(text("a\"")); s != `"a\""` || e != api.OK {
		t.Errorf("Text: %s, %d", s, int(e))
	}
	if s, e := value.Bytes(text("a\"")); s != "\x04\x04\x61\x22" || e != api.OK {
		t.Errorf("Bytes: %x, %d", s, int(e))
	}
}

// P12.1: which values are right.
func TestCheck(t *testing.T) {
	for _, v := range rights() {
		if e := value.Check(v); e != api.OK {
			t.Errorf("Check(%+v): %d", v, int(e))
		}
	}
	for _, v := range wrongs() {
		if e := value.Check(v); e != api.ErrArg {
			t.Errorf("Check(%+v): %d", v, int(e))
		}
	}
}

// P12.1 and P12.3: of a value that is not right neither a text nor bytes are told.
func TestRefuses(t *testing.T) {
	for _, v := range wrongs() {
		if s, e := value.Text(v); s != "" || e != api.ErrArg {
			t.Errorf("Text(%+v): %q, %d", v, s, int(e))
		}
		if s, e := value.Bytes(v); s != "" || e != api.ErrArg {
			t.Errorf("Bytes(%+v): %x, %d", v, s, int(e))
		}
	}
}

// P12.1: values' texts.
func TestText(t *testing.T) {
	for v, want := range map[api.Value]string{
		null: "null", truth(0): "false", truth(1): "true",
		number(0): "0", number(7): "7", number(-7): "-7", number(907): "907", number(-100): "-100",
		number(math.MaxInt): "9223372036854775807", number(math.MinInt): "-9223372036854775808",
		text(""): `""`, text("a b"): `"a b"`, text("null"): `"null"`, text("~ "): `"~ "`, text("'"): `"'"`,
		text(`"`): `"\""`, text(`\`): `"\\"`, text(`\"`): `"\\\""`, text(`"\`): `"\"\\"`, text(`\n`): `"\\n"`,
		text(strings.Repeat(`"`, 40)): `"` + strings.Repeat(`\"`, 40) + `"`,
		text(strings.Repeat("z", 40)): `"` + strings.Repeat("z", 40) + `"`,
	} {
		if s, e := value.Text(v); s != want || e != api.OK {
			t.Errorf("Text(%+v): %s, %d, not %s", v, s, int(e), want)
		}
	}
	for _, v := range rights() {
		if s, e := value.Text(v); s != written(v) || e != api.OK {
			t.Errorf("Text(%+v): %s, %d, not %s", v, s, int(e), written(v))
		}
	}
}

// P12.6: unlike values have unlike texts.
func TestTextsUnlike(t *testing.T) {
	has := map[string]api.Value{}
	for _, v := range rights() {
		s, _ := value.Text(v)
		if u, there := has[s]; there {
			t.Errorf("Text: %s of %+v and of %+v", s, u, v)
		}
		has[s] = v
	}
}

// P12.2 and P12.5: each two of values that stand in order.
func TestCompare(t *testing.T) {
	l := rights()
	for i, a := range l {
		for k, b := range l {
			want := 0
			if i < k {
				want = -1
			} else if i > k {
				want = 1
			}
			if n := value.Compare(a, b); n != want {
				t.Fatalf("Compare(%+v, %+v): %d, not %d", a, b, n, want)
			}
		}
	}
}

// P12.2: a few that stand one ahead of the other, told one by one.
func TestCompareTold(t *testing.T) {
	for _, c := range [][2]api.Value{
		{null, number(math.MinInt)}, {null, text("")}, {null, truth(0)},
		{number(math.MaxInt), text("")}, {number(9), text("1")}, {number(1), truth(0)},
		{text(strings.Repeat("~", 40)), truth(0)}, {text("true"), truth(1)}, {truth(0), truth(1)},
		{number(math.MinInt), number(math.MaxInt)}, {number(math.MinInt), number(0)}, {number(-1), number(math.MaxInt)},
		{number(-2), number(-1)}, {number(9), number(10)},
		{text(""), text(" ")}, {text("a"), text("aa")}, {text("aa"), text("b")}, {text("B"), text("a")}, {text("10"), text("9")}, {text("Z"), text("\\")},
	} {
		if n, m := value.Compare(c[0], c[1]), value.Compare(c[1], c[0]); n != -1 || m != 1 {
			t.Errorf("Compare(%+v, %+v): %d, and %d", c[0], c[1], n, m)
		}
	}
}

// P12.2: of values that are not right there is an end.
func TestCompareEnds(t *testing.T) {
	l := wrongs()
	for i, a := range l {
		for _, b := range []api.Value{l[len(l)-1-i], null, number(1), text("a"), truth(1)} {
			value.Compare(a, b)
			value.Compare(b, a)
		}
	}
}

// P12.3: values' bytes.
func TestBytes(t *testing.T) {
	for v, want := range map[api.Value]string{
		null: "\x00", truth(0): "\x06\x00", truth(1): "\x06\x02",
		number(0): "\x02\x00", number(-1): "\x02\x01", number(1): "\x02\x02", number(64): "\x02\x80\x01",
		number(math.MaxInt): "\x02\xfe\xff\xff\xff\xff\xff\xff\xff\xff\x01", number(math.MinInt): "\x02\xff\xff\xff\xff\xff\xff\xff\xff\xff\x01",
		text(""): "\x04\x00", text("ab"): "\x04\x04ab", text(`\`): "\x04\x02\\", text(strings.Repeat("z", 40)): "\x04\x50" + strings.Repeat("z", 40),
	} {
		if s, e := value.Bytes(v); s != want || e != api.OK {
			t.Errorf("Bytes(%+v): %x, %d, not %x", v, s, int(e), want)
		}
	}
	for _, v := range rights() {
		if s, e := value.Bytes(v); s != laid(v) || e != api.OK {
			t.Errorf("Bytes(%+v): %x, %d, not %x", v, s, int(e), laid(v))
		}
	}
}

// P12.3 and P12.6: what was written is read, whatever stands behind; what is cut off is too short.
func TestTakeBack(t *testing.T) {
	for _, v := range rights() {
		s, _ := value.Bytes(v)
		for _, behind := range behinds() {
			takes(t, s+behind, v, behind, api.OK)
		}
		for i := range len(s) {
			takes(t, s[:i], null, "", api.ErrShort)
		}
	}
}

// P12.3: what Take refuses, and in which order.
func TestTakeRefuses(t *testing.T) {
	nine := strings.Repeat("\xff", 9)
	for s, want := range map[string]api.Errno{
		// The kind is no number.
		"": api.ErrShort, "\x80": api.ErrShort, "\x82": api.ErrShort, "\x80\x00": api.ErrForm, "\x82\x00\x00": api.ErrForm, nine: api.ErrShort, nine + "\x02": api.ErrForm,
		// The kind is none, whatever stands behind it.
		"\x01": api.ErrForm, "\x03": api.ErrForm, "\x08": api.ErrForm, "\x08\x00": api.ErrForm, "\x08\x80": api.ErrForm, "\x0a\x80\x00": api.ErrForm, "\x05\x52": api.ErrForm, num(math.MaxInt): api.ErrForm, num(math.MinInt): api.ErrForm, num(1<<32 + 1): api.ErrForm, num(256): api.ErrForm, num(260): api.ErrForm, num(-254): api.ErrForm,
		// There is no number, or one that is no truth.
		"\x02": api.ErrShort, "\x02\x80": api.ErrShort, "\x02\x80\x00": api.ErrForm, "\x02" + nine + "\x02": api.ErrForm,
		"\x06": api.ErrShort, "\x06\x80": api.ErrShort, "\x06\x80\x00": api.ErrForm, "\x06\x82\x00": api.ErrForm, "\x06\x01": api.ErrForm, "\x06\x03": api.ErrForm, "\x06\x04": api.ErrForm, "\x06" + num(math.MaxInt): api.ErrForm, "\x06" + num(math.MinInt): api.ErrForm, "\x06" + num(1<<32): api.ErrForm,
		// There is no text, or one that may not be; its length is asked ahead of its bytes.
		"\x04": api.ErrShort, "\x04\x80": api.ErrShort, "\x04\x84\x00": api.ErrForm, "\x04\x01": api.ErrForm, "\x04\x01\x7f": api.ErrForm, "\x04" + num(math.MinInt): api.ErrForm,
		"\x04\x02": api.ErrShort, "\x04\x04a": api.ErrShort, "\x04\x04\x7f": api.ErrShort, "\x04\x50" + strings.Repeat("x", 39): api.ErrShort,
		"\x04\x52": api.ErrBig, "\x04\x52" + strings.Repeat("x", 41): api.ErrBig, "\x04\x52" + strings.Repeat("\n", 41): api.ErrBig, "\x04" + num(math.MaxInt): api.ErrBig,
		"\x04\x02\x7f": api.ErrForm, "\x04\x02\x1f": api.ErrForm, "\x04\x04a\n": api.ErrForm, "\x04\x04\u00e9": api.ErrForm, "\x04\x02\xffabc": api.ErrForm, "\x04\x50" + strings.Repeat("x", 39) + "\x00": api.ErrForm,
	} {
		takes(t, s, null, "", want)
		if want == api.ErrForm || want == api.ErrBig {
			takes(t, s+"\x00", null, "", want)
		}
	}
	for _, s := range wrongTexts() {
		want := api.ErrForm
		if len(s) > mostText {
			want = api.ErrBig
		}
		takes(t, laid(text(s))+"q", null, "", want)
	}
}

// all tells all texts of up to so many of these bytes.
func all(bytes string, most int) []string {
	l := []string{""}
	for last := l; most > 0; most-- {
		var next []string
		for _, s := range last {
			for i := range len(bytes) {
				next = append(next, s+bytes[i:i+1])
			}
		}
		l = append(l, next...)
		last = next
	}
	return l
}

// P12.6: what is read as a value, or as a row, has just its bytes, and is right.
func TestTakeOneForm(t *testing.T) {
	count, rows := 0, 0
	for _, s := range all("\x00\x01\x02\x03\x04\x06\x08\x80\x82 a\x7f\xff", 5) {
		if v, rest, e := value.Take(s); e == api.OK {
			count++
			if laid(v)+rest != s || value.Check(v) != api.OK {
				t.Fatalf("Take(%x): %+v, %x, whose bytes are others", s, v, rest)
			}
		} else if v != null || rest != "" {
			t.Fatalf("Take(%x): %+v, %x beside %d", s, v, rest, int(e))
		}
		if l, rest, e := value.TakeRow(s, 3); e == api.OK {
			rows++
			if laidRow(l)+rest != s || slices.ContainsFunc(l, func(v api.Value) bool { return value.Check(v) != api.OK }) {
				t.Fatalf("TakeRow(%x): %+v, %x, whose bytes are others", s, l, rest)
			}
		} else if len(l) != 0 || rest != "" {
			t.Fatalf("TakeRow(%x): %+v, %x beside %d", s, l, rest, int(e))
		}
	}
	if count == 0 || rows == 0 {
		t.Error("nothing was read", count, rows)
	}
}

// rowsOf tells rows that are right, short and long ones.
func rowsOf() [][]api.Value {
	return [][]api.Value{
		nil, {}, {null}, {null, null, null}, {number(3), null}, {text("a"), truth(1), number(-5), null, text("")},
		slices.Repeat([]api.Value{null}, 63), slices.Repeat([]api.Value{number(-64)}, 64), slices.Repeat([]api.Value{text("x")}, 300), rights(),
	}
}

// P12.4: rows' bytes; the list, and what stands behind its end, stay as they were.
func TestRow(t *testing.T) {
	for s, l := range map[string][]api.Value{
		"\x00": nil, "\x02\x00": {null}, "\x04\x02\x06\x00": {number(3), null}, "\x06\x06\x02\x04\x04ab\x02\x01": {truth(1), text("ab"), number(-1)},
		"\x80\x01" + strings.Repeat("\x00", 64): slices.Repeat([]api.Value{null}, 64),
	} {
		if got, e := value.Row(l); got != s || e != api.OK {
			t.Errorf("Row(%+v): %x, %d, not %x", l, got, int(e), s)
		}
	}
	for _, l := range rowsOf() {
		room := append(slices.Clone(l), number(77), text("\n"))
		ahead := slices.Clone(room)
		if s, e := value.Row(room[:len(l)]); s != laidRow(l) || e != api.OK {
			t.Errorf("Row of %d values: %x, %d", len(l), s, int(e))
		}
		if !slices.Equal(room, ahead) {
			t.Errorf("Row of %d values has changed them", len(l))
		}
	}
}

// P12.4: a row with a value that is not right, wherever it stands, has no bytes.
func TestRowRefuses(t *testing.T) {
	for _, v := range wrongs() {
		for _, l := range [][]api.Value{{v}, {v, null}, {number(1), text("a"), v}, {null, v, truth(0)}, {v, v}} {
			if s, e := value.Row(l); s != "" || e != api.ErrArg {
				t.Errorf("Row(%+v): %x, %d", l, s, int(e))
			}
		}
	}
}

// P12.4 and P12.6: rows that were written are read, whatever stands behind; what is cut off is too short.
func TestTakeRowBack(t *testing.T) {
	for _, l := range rowsOf() {
		s, _ := value.Row(l)
		for _, behind := range behinds() {
			for _, most := range []int{len(l), len(l) + 1, math.MaxInt} {
				takesRow(t, s+behind, most, l, behind, api.OK)
			}
			for _, most := range []int{len(l) - 1, -1, math.MinInt} {
				takesRow(t, s+behind, most, nil, "", api.ErrBig)
			}
		}
		for i := 0; i < len(s); i += 1 + i/50 {
			takesRow(t, s[:i], len(l), nil, "", api.ErrShort)
		}
	}
}

// P12.4: what TakeRow refuses, and in which order.
func TestTakeRowRefuses(t *testing.T) {
	for _, c := range []struct {
		s    string
		most int
		want api.Errno
	}{
		// There is no number, whatever the most is.
		{"", 2, api.ErrShort}, {"", -1, api.ErrShort}, {"\x80", 2, api.ErrShort}, {"\x80\x00", 2, api.ErrForm}, {"\x80\x00", -1, api.ErrForm},
		// It is below 0, asked ahead of the most.
		{"\x01", 2, api.ErrForm}, {"\x01", -1, api.ErrForm}, {"\x03\x00", -9, api.ErrForm}, {num(math.MinInt) + "\x00", math.MinInt, api.ErrForm},
		// It is above the most, asked ahead of the values.
		{"\x06\x00\x00\x00", 2, api.ErrBig}, {"\x06", 2, api.ErrBig}, {"\x02\x08", 0, api.ErrBig}, {"\x00", -1, api.ErrBig}, {num(math.MaxInt), math.MaxInt - 1, api.ErrBig},
		// A value is wrong: the first one's error is told.
		{"\x02", 2, api.ErrShort}, {"\x04\x00", 2, api.ErrShort}, {"\x04\x00\x02", 2, api.ErrShort}, {"\x02\x08", 2, api.ErrForm}, {"\x04\x00\x06\x04", 2, api.ErrForm}, {"\x02\x04\x52", 2, api.ErrBig}, {"\x04\x00\x04\x02\x7f", 2, api.ErrForm},
		{"\x04\x04\x52\x08", 2, api.ErrBig}, {"\x04\x08\x04\x52", 2, api.ErrForm}, {"\x06\x00\x08", 3, api.ErrForm}, {"\x06\x00\x06\x80", 3, api.ErrShort},
		// There are not so many bytes, nor room for so many values.
		{num(math.MaxInt), math.MaxInt, api.ErrShort}, {num(math.MaxInt) + "\x00\x00\x02\x02", math.MaxInt, api.ErrShort}, {num(math.MaxInt) + "\x00\x08", math.MaxInt, api.ErrForm},
	} {
		takesRow(t, c.s, c.most, nil, "", c.want)
	}
}

// P12.4: each answer of TakeRow is new.
func TestTakeRowOwn(t *testing.T) {
	want := []api.Value{number(3), text("a"), null}
	s := laidRow(want)
	l, _, _ := value.TakeRow(s, 3)
	again, _, _ := value.TakeRow(s, 3)
	clear(again)
	_ = append(again, truth(1))
	if !slices.Equal(l, want) {
		t.Errorf("TakeRow: two answers share their memory: %+v", l)
	}
	takesRow(t, s, 3, want, "", api.OK)
}
