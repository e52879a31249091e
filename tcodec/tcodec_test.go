package tcodec_test

import (
	"encoding/binary"
	"fmt"
	"math"
	"math/rand"
	"reflect"
	"slices"
	"strings"
	"testing"

	"decretal/api"
	"decretal/dtable"
	"decretal/tcodec"
)

const (
	mostBytes  = 1400
	mostSource = 200
	mostCols   = 6
	mostRules  = 24
	mostOrder  = 8
	mostName   = 16
)

func num(n int) api.Value    { return api.Value{Kind: api.KInt, N: n} }
func txt(s string) api.Value { return api.Value{Kind: api.KText, S: s} }
func truth(n int) api.Value  { return api.Value{Kind: api.KBool, N: n} }

// column tells one, with its values' order.
func column(name string, kind api.Kind, order ...api.Value) api.Column {
	return api.Column{Name: name, Kind: kind, Order: order}
}

// rule tells one, of its cells and its outputs with a | between: of either with a ; between two.
func rule(s string) api.Rule {
	cells, outs, _ := strings.Cut(s, "|")
	return api.Rule{Cells: strings.Split(cells, ";"), Outs: strings.Split(outs, ";")}
}

// small tells the table of the chapter's example.
func small() api.Table {
	return api.Table{Name: "t", Policy: api.PFirst, Ins: []api.Column{column("a", api.KInt)}, Outs: []api.Column{column("o", api.KInt)}}
}

// table tells one of three inputs and two outputs with orders, that is clean.
func table() api.Table {
	return api.Table{
		Name: "fee", Policy: api.PPriority,
		Ins:   []api.Column{column("i", api.KInt), column("s", api.KText), column("b", api.KBool)},
		Outs:  []api.Column{column("o", api.KInt, num(-1), num(64)), column("p", api.KText, txt(""), txt("a\""), txt("z"))},
		Rules: []api.Rule{rule(`< 5;-;true|i + 1;"x"`), rule(`[5..i * 2];not("a", s);-|null;s`), rule(`-;null;not(b)|-i;if i > 7 then s + "z" else null`)},
	}
}

// sum tells one of five texts, that is written with just so many bytes, of which there are 22 to 222.
func sum(bytes int) string {
	var l []string
	for k := range 5 {
		l = append(l, `"`+strings.Repeat("x", (bytes-22+k)/5)+`"`)
	}
	return strings.Join(l, " + ")
}

// wide tells a clean table of all columns and all rules that there may be.
func wide() api.Table {
	t := api.Table{Name: strings.Repeat("n", mostName), Policy: api.PRule}
	for k := range mostCols {
		t.Ins = append(t.Ins, column(fmt.Sprint("i", k), api.KInt))
		t.Outs = append(t.Outs, column(fmt.Sprint("o", k), api.KText))
	}
	for range mostRules {
		t.Rules = append(t.Rules, rule("-;1;-;i1;< 2;-|null;null;null;null;\"a\";null"))
	}
	return t
}

// tables tells clean tables, no two alike, whose bytes are few enough.
func tables() []api.Table {
	l := []api.Table{small(), table(), wide()}
	for _, turn := range []func(*api.Table){
		func(t *api.Table) { t.Name = "u" }, func(t *api.Table) { t.Name = "T" }, func(t *api.Table) { t.Name = "ta" },
		func(t *api.Table) { t.Ins[0].Name = "o" }, func(t *api.Table) { t.Outs[0].Name = "a" }, func(t *api.Table) { t.Ins[0].Name, t.Outs[0].Name = "o", "a" },
		func(t *api.Table) { t.Ins[0].Kind = api.KText }, func(t *api.Table) { t.Outs[0].Kind = api.KText }, func(t *api.Table) { t.Outs[0].Kind = api.KBool },
		func(t *api.Table) { t.Ins = append(t.Ins, column("o", api.KInt)) }, func(t *api.Table) { t.Outs = append(t.Outs, column("p", api.KInt)) },
		func(t *api.Table) { t.Policy = api.PUnique }, func(t *api.Table) { t.Policy = api.PRule }, func(t *api.Table) { t.Policy = api.PCollect },
		func(t *api.Table) { t.Policy, t.Agg = api.PCollect, api.ASum }, func(t *api.Table) { t.Policy, t.Agg = api.PCollect, api.ACount },
		func(t *api.Table) { t.Policy, t.Outs[0].Order = api.PPriority, []api.Value{num(1)} }, func(t *api.Table) { t.Policy, t.Outs[0].Order = api.PPriority, []api.Value{num(1), num(-1)} }, func(t *api.Table) { t.Policy, t.Outs[0].Order = api.PPriority, []api.Value{num(-1), num(1)} },
		func(t *api.Table) { t.Rules = []api.Rule{rule("-|1")} }, func(t *api.Table) { t.Rules = []api.Rule{rule("1|a")} }, func(t *api.Table) { t.Rules = []api.Rule{rule("a|1")} }, func(t *api.Table) { t.Rules = []api.Rule{rule("-|1"), rule("-|1")} }, func(t *api.Table) { t.Rules = []api.Rule{rule("a|1"), rule("-|1")} }, func(t *api.Table) { t.Rules = []api.Rule{rule("-|1"), rule("a|1")} },
	} {
		l = append(l, turned(small(), turn))
	}
	return l
}

// copied tells a table that shares no memory with another one, and where an empty list is none.
func copied(t api.Table) api.Table {
	t.Ins, t.Outs, t.Rules = append([]api.Column(nil), t.Ins...), append([]api.Column(nil), t.Outs...), append([]api.Rule(nil), t.Rules...)
	for _, l := range [][]api.Column{t.Ins, t.Outs} {
		for i := range l {
			l[i].Order = append([]api.Value(nil), l[i].Order...)
		}
	}
	for i, r := range t.Rules {
		t.Rules[i] = api.Rule{Cells: append([]string(nil), r.Cells...), Outs: append([]string(nil), r.Outs...)}
	}
	return t
}

// hollow tells a table whose empty lists are not none.
func hollow(t api.Table) api.Table {
	t.Ins, t.Outs, t.Rules = append([]api.Column{}, t.Ins...), append([]api.Column{}, t.Outs...), append([]api.Rule{}, t.Rules...)
	for _, l := range [][]api.Column{t.Ins, t.Outs} {
		for i := range l {
			l[i].Order = append([]api.Value{}, l[i].Order...)
		}
	}
	return t
}

// turned tells a table in which something was turned.
func turned(t api.Table, turn func(*api.Table)) api.Table {
	t = copied(t)
	turn(&t)
	return t
}

// alike tells whether two tables are the same in all.
func alike(a, b api.Table) bool {
	return reflect.DeepEqual(copied(a), copied(b))
}

// lay lays a number by the words of octet's chapter: the code of n is the one that Go's varints have, too.
func lay(b []byte, n int) []byte {
	return binary.AppendVarint(b, int64(n))
}

// layText lays a text.
func layText(b []byte, s string) []byte {
	return append(lay(b, len(s)), s...)
}

// layValue lays a value by the words of its chapter.
func layValue(b []byte, v api.Value) []byte {
	b = lay(b, int(v.Kind))
	switch v.Kind {
	case api.KInt, api.KBool:
		return lay(b, v.N)
	case api.KText:
		return layText(b, v.S)
	}
	return b
}

// laid tells a table's bytes by the chapter's words, whether it is clean, or right, or neither.
func laid(t api.Table) string {
	b := layText(nil, t.Name)
	b = lay(lay(b, int(t.Policy)), int(t.Agg))
	b = lay(b, len(t.Ins))
	for _, c := range t.Ins {
		b = lay(layText(b, c.Name), int(c.Kind))
	}
	b = lay(b, len(t.Outs))
	for _, c := range t.Outs {
		b = lay(lay(layText(b, c.Name), int(c.Kind)), len(c.Order))
		for _, v := range c.Order {
			b = layValue(b, v)
		}
	}
	b = lay(b, len(t.Rules))
	for _, r := range t.Rules {
		for _, s := range append(append([]string{}, r.Cells...), r.Outs...) {
			b = layText(b, s)
		}
	}
	return string(b)
}

// finder finds the table that bytes may be of: whatever it finds is laid again, and held against them.
type finder struct{ left []byte }

func (f *finder) num() int {
	n, size := binary.Varint(f.left)
	if size <= 0 {
		f.left = nil
		return 0
	}
	f.left = f.left[size:]
	return int(n)
}

func (f *finder) text() string {
	n := f.num()
	if n < 0 || n > len(f.left) {
		f.left = nil
		return ""
	}
	s := string(f.left[:n])
	f.left = f.left[n:]
	return s
}

// count tells how many parts there are: of those that are no table's in any case any wrong number will do.
func (f *finder) count() int {
	return min(f.num(), 100)
}

func (f *finder) column(order bool) api.Column {
	c := column(f.text(), api.Kind(f.num()))
	if !order {
		return c
	}
	for n := f.count(); len(c.Order) < n; {
		v := api.Value{Kind: api.Kind(f.num())}
		switch v.Kind {
		case api.KInt, api.KBool:
			v.N = f.num()
		case api.KText:
			v.S = f.text()
		}
		c.Order = append(c.Order, v)
	}
	return c
}

// found tells the clean table that has bytes, if there is one, however many they are.
func found(s string) (api.Table, bool) {
	f := &finder{[]byte(s)}
	t := api.Table{Name: f.text(), Policy: api.Policy(f.num()), Agg: api.Agg(f.num())}
	for n := f.count(); len(t.Ins) < n; {
		t.Ins = append(t.Ins, f.column(false))
	}
	for n := f.count(); len(t.Outs) < n; {
		t.Outs = append(t.Outs, f.column(true))
	}
	for n := f.count(); len(t.Rules) < n; {
		var r api.Rule
		for range t.Ins {
			r.Cells = append(r.Cells, f.text())
		}
		for range t.Outs {
			r.Outs = append(r.Outs, f.text())
		}
		t.Rules = append(t.Rules, r)
	}
	c, _, _, e := dtable.Clean(t)
	if e != api.OK || !alike(c, t) || laid(t) != s {
		return api.Table{}, false
	}
	return t, true
}

// written tells a clean table's bytes.
func written(t *testing.T, of api.Table) string {
	t.Helper()
	s, e := tcodec.Bytes(of)
	if want := laid(of); s != want || e != api.OK {
		t.Fatalf("Bytes(%v): %q, %d, not %q", of, s, int(e), want)
	}
	return s
}

// unwritten holds why a table has no bytes against what is wanted.
func unwritten(t *testing.T, of api.Table, want api.Errno) {
	t.Helper()
	if s, e := tcodec.Bytes(of); s != "" || e != want {
		t.Fatalf("Bytes(%v): %q, %d, not %d", of, s, int(e), int(want))
	}
}

// read holds the table of bytes against what is wanted.
func read(t *testing.T, s string, want api.Table) {
	t.Helper()
	if x, e := tcodec.Parse(s); e != api.OK || !alike(x, want) {
		t.Fatalf("Parse(%q): %v, %d, not %v", s, x, int(e), want)
	}
}

// unread holds why bytes are no table's against what is wanted.
func unread(t *testing.T, s string, want api.Errno) {
	t.Helper()
	if x, e := tcodec.Parse(s); e != want || !reflect.DeepEqual(x, api.Table{}) {
		t.Fatalf("Parse(%q): %v, %d, not %d", s, x, int(e), int(want))
	}
}

// asked holds what Parse tells of bytes against what they are found to be, and tells whether they are a table's.
func asked(t *testing.T, s string) bool {
	t.Helper()
	want, is := found(s)
	switch {
	case len(s) > mostBytes:
		unread(t, s, api.ErrBig)
	case !is:
		unread(t, s, api.ErrForm)
	default:
		read(t, s, want)
		written(t, want)
		return true
	}
	return false
}

// Example 1 of the chapter.
func TestExample(t *testing.T) {
	want := "\x02\x74" + "\x04\x00" + "\x02\x02\x61\x02" + "\x02\x02\x6f\x02\x00" + "\x00"
	if s, e := tcodec.Bytes(small()); s != want || e != api.OK {
		t.Errorf("Bytes: %q, %d", s, int(e))
	}
	read(t, want, small())
}

// P19.1: a table's bytes, written out part by part.
func TestBytes(t *testing.T) {
	long := sum(193)
	for _, c := range []struct {
		of   api.Table
		want []string
	}{
		{table(), []string{
			"\x06fee", "\x06", "\x00",
			"\x06", "\x02i\x02", "\x02s\x04", "\x02b\x06",
			"\x04", "\x02o\x02", "\x04", "\x02\x01", "\x02\x80\x01", "\x02p\x04", "\x06", "\x04\x00", "\x04\x04a\"", "\x04\x02z",
			"\x06", "\x06< 5", "\x02-", "\x08true", "\x0ai + 1", "\x06\"x\"", "\x14[5..i * 2]", "\x16not(\"a\", s)", "\x02-", "\x08null", "\x02s", "\x02-", "\x08null", "\x0cnot(b)", "\x04-i", "\x3eif i > 7 then s + \"z\" else null",
		}},
		{turned(small(), func(t *api.Table) { t.Policy, t.Agg = api.PCollect, api.AMost }), []string{"\x02t", "\x0a", "\x06", "\x02", "\x02a\x02", "\x02", "\x02o\x02", "\x00", "\x00"}},
		{turned(small(), func(t *api.Table) {
			t.Policy, t.Outs[0] = api.PPriority, column("_", api.KBool, truth(1), truth(0))
		}), []string{"\x02t", "\x06", "\x00", "\x02", "\x02a\x02", "\x02", "\x02_\x06", "\x04", "\x06\x02", "\x06\x00", "\x00"}},
		{turned(small(), func(t *api.Table) {
			t.Policy, t.Outs[0].Order = api.PPriority, []api.Value{num(math.MaxInt), num(math.MinInt), num(0)}
		}), []string{"\x02t", "\x06", "\x00", "\x02", "\x02a\x02", "\x02", "\x02o\x02", "\x06", "\x02\xfe\xff\xff\xff\xff\xff\xff\xff\xff\x01", "\x02\xff\xff\xff\xff\xff\xff\xff\xff\xff\x01", "\x02\x00", "\x00"}},
		{turned(small(), func(t *api.Table) {
			t.Name, t.Ins[0].Name = strings.Repeat("n", mostName), strings.Repeat("i", mostName)
			t.Ins[0].Kind, t.Outs[0].Kind = api.KText, api.KText
			t.Rules = []api.Rule{rule(long + "|" + long)}
		}), []string{"\x20nnnnnnnnnnnnnnnn", "\x04", "\x00", "\x02", "\x20iiiiiiiiiiiiiiii\x04", "\x02", "\x02o\x04", "\x00", "\x02", "\x82\x03", long, "\x82\x03", long}},
	} {
		want := strings.Join(c.want, "")
		if s, e := tcodec.Bytes(c.of); s != want || e != api.OK {
			t.Errorf("Bytes(%v): %q, %d, not %q", c.of, s, int(e), want)
		}
		if laid(c.of) != want {
			t.Errorf("%v is laid %q, not %q", c.of, laid(c.of), want)
		}
		read(t, want, c.of)
	}
}

// P19.1: an empty list is as none.
func TestHollow(t *testing.T) {
	for _, of := range tables() {
		s := written(t, of)
		if x, e := tcodec.Bytes(hollow(of)); x != s || e != api.OK {
			t.Errorf("Bytes(%v): %q, %d, not %q", of, x, int(e), s)
		}
	}
}

// P19.1 and P19.2: all policies with all aggregates, kinds, and counts.
func TestPolicies(t *testing.T) {
	right := 0
	for p := api.Policy(-1); p <= 8; p++ {
		for agg := api.Agg(-1); agg <= 5; agg++ {
			for kind := api.KNull; kind <= 4; kind++ {
				for ordered := range 2 {
					of := turned(small(), func(t *api.Table) {
						t.Policy, t.Agg, t.Outs[0].Kind = p, agg, kind
						if ordered == 1 {
							t.Outs[0].Order = []api.Value{{Kind: kind}}
						}
					})
					if _, _, _, e := dtable.Clean(of); e != api.OK {
						unwritten(t, of, e)
						unread(t, laid(of), api.ErrForm)
						continue
					}
					right++
					read(t, written(t, of), of)
				}
			}
		}
	}
	if right != 6*3+3*3-1 {
		t.Error(right)
	}
}

// fault is a thing by which a table is not right, and the error of Clean.
type fault struct {
	turn func(*api.Table)
	e    api.Errno
}

// faults tells such of a table like that of table().
func faults() []fault {
	cell := func(s string) func(*api.Table) { return func(t *api.Table) { t.Rules[1].Cells[0] = s } }
	out := func(s string) func(*api.Table) { return func(t *api.Table) { t.Rules[2].Outs[1] = s } }
	many := func(n int) []api.Column {
		var l []api.Column
		for k := range n {
			l = append(l, column(fmt.Sprint("c", k), api.KInt, num(1)))
		}
		return l
	}
	var numbers []api.Value
	for n := range mostOrder + 1 {
		numbers = append(numbers, num(n))
	}
	return []fault{
		{func(t *api.Table) { t.Name = "" }, api.ErrName}, {func(t *api.Table) { t.Name = "if" }, api.ErrName}, {func(t *api.Table) { t.Name = "a b" }, api.ErrName}, {func(t *api.Table) { t.Name = strings.Repeat("n", mostName+1) }, api.ErrName},
		{func(t *api.Table) { t.Ins = nil }, api.ErrTable}, {func(t *api.Table) { t.Ins = many(mostCols + 1) }, api.ErrLimit}, {func(t *api.Table) { t.Ins[1].Name = "i" }, api.ErrName}, {func(t *api.Table) { t.Ins[1].Name = "null" }, api.ErrName}, {func(t *api.Table) { t.Ins[2].Kind = 0 }, api.ErrType}, {func(t *api.Table) { t.Ins[2].Kind = 4 }, api.ErrType}, {func(t *api.Table) { t.Ins[2].Kind = -1 }, api.ErrType}, {func(t *api.Table) { t.Ins[2].Kind = 1<<32 + 3 }, api.ErrType}, {func(t *api.Table) { t.Ins[0].Order = []api.Value{num(1)} }, api.ErrTable},
		{func(t *api.Table) { t.Outs = nil }, api.ErrTable}, {func(t *api.Table) { t.Outs = many(mostCols + 1) }, api.ErrLimit}, {func(t *api.Table) { t.Outs[1].Name = strings.Repeat("n", mostName+1) }, api.ErrName}, {func(t *api.Table) { t.Outs[1].Kind = 0 }, api.ErrType},
		{func(t *api.Table) { t.Outs[1].Order = nil }, api.ErrTable}, {func(t *api.Table) { t.Outs[0].Order = numbers }, api.ErrTable}, {func(t *api.Table) { t.Outs[0].Order = []api.Value{num(1), num(1)} }, api.ErrTable}, {func(t *api.Table) { t.Outs[0].Order = []api.Value{{}} }, api.ErrTable}, {func(t *api.Table) { t.Outs[0].Order = []api.Value{txt("a")} }, api.ErrTable}, {func(t *api.Table) { t.Outs[1].Order = []api.Value{txt("\x1f")} }, api.ErrTable}, {func(t *api.Table) { t.Outs[1].Order = []api.Value{txt(strings.Repeat("x", 41))} }, api.ErrTable}, {func(t *api.Table) { t.Outs[0].Order = []api.Value{{Kind: api.KInt, S: "a"}} }, api.ErrTable},
		{func(t *api.Table) { t.Policy = 0 }, api.ErrTable}, {func(t *api.Table) { t.Policy = 7 }, api.ErrTable}, {func(t *api.Table) { t.Policy = api.PFirst }, api.ErrTable}, {func(t *api.Table) { t.Agg = api.ASum }, api.ErrTable}, {func(t *api.Table) { t.Agg = 5 }, api.ErrTable}, {func(t *api.Table) { t.Agg = -1 }, api.ErrTable},
		{func(t *api.Table) { t.Rules = slices.Repeat(t.Rules[:1], mostRules+1) }, api.ErrLimit}, {func(t *api.Table) { t.Rules[0].Cells = t.Rules[0].Cells[:2] }, api.ErrTable}, {func(t *api.Table) { t.Rules[0].Outs = append(t.Rules[0].Outs, "null") }, api.ErrTable}, {func(t *api.Table) { t.Rules[2] = api.Rule{} }, api.ErrTable},
		{func(t *api.Table) { // its texts, one behind the other, are those of a rule that is right
			r := &t.Rules[1]
			r.Cells, r.Outs = r.Cells[:2], []string{r.Cells[2], r.Outs[0], r.Outs[1]}
		}, api.ErrTable},
		{cell(""), api.ErrSyntax}, {cell("<"), api.ErrSyntax}, {cell("\x00"), api.ErrSyntax}, {cell("q"), api.ErrName}, {cell("s"), api.ErrType}, {cell("9223372036854775808"), api.ErrOver}, {cell("not(" + strings.Repeat("1, ", 12) + "1)"), api.ErrLimit}, {cell(strings.Repeat("-", 12) + "1"), api.ErrDeep}, {cell(strings.Repeat(" ", mostSource) + "1"), api.ErrBig},
		{out(""), api.ErrSyntax}, {out("< 1"), api.ErrSyntax}, {out("1"), api.ErrType}, {out("q"), api.ErrName}, {out(strings.Repeat("-", 12) + "i"), api.ErrDeep},
		{out(strings.ReplaceAll(sum(203), " ", "")), api.ErrBig}, // it can be read, but not be written
	}
}

// P19.1: of a table that is not right Clean's error; P19.2: such bytes as it would have are none.
func TestNotRight(t *testing.T) {
	taken := 0
	for i, f := range faults() {
		of := turned(table(), f.turn)
		if _, _, _, e := dtable.Clean(of); e != f.e {
			t.Fatal(i, int(e))
		}
		unwritten(t, of, f.e)
		if asked(t, laid(of)) {
			taken++
		}
	}
	// Three of them would have the bytes of a table that is right: neither an input's order is told, nor what stands beside a number, nor which of a rule's texts are cells.
	if taken != 3 {
		t.Error(taken)
	}
	unwritten(t, api.Table{}, api.ErrName)
	unread(t, laid(api.Table{}), api.ErrForm)
	unwritten(t, turned(small(), func(t *api.Table) { t.Rules = make([]api.Rule, 100000) }), api.ErrLimit)
	unwritten(t, turned(small(), func(t *api.Table) { t.Ins = make([]api.Column, 100000) }), api.ErrLimit)
	unwritten(t, turned(small(), func(t *api.Table) { t.Name = strings.Repeat("n", 1<<20) }), api.ErrName)
}

// spoil puts another text that tells the same in each place of a table, one at a time.
func spoil(of api.Table, do func(api.Table)) {
	for i, r := range of.Rules {
		for k, s := range r.Cells {
			do(turned(of, func(t *api.Table) { t.Rules[i].Cells[k] = " " + s }))
			do(turned(of, func(t *api.Table) { t.Rules[i].Cells[k] = s + " " }))
		}
		for k, s := range r.Outs {
			do(turned(of, func(t *api.Table) { t.Rules[i].Outs[k] = s + " " }))
			do(turned(of, func(t *api.Table) { t.Rules[i].Outs[k] = "(" + s + ")" }))
		}
	}
}

// P19.1 and P19.2: a table that is right, but not clean, has no bytes, and such bytes as it would have are none.
func TestUnclean(t *testing.T) {
	count := 0
	for _, of := range tables() {
		spoil(of, func(x api.Table) {
			count++
			unwritten(t, x, api.ErrForm)
			if s := laid(x); len(s) <= mostBytes {
				unread(t, s, api.ErrForm)
			}
		})
	}
	for _, s := range []string{"<5", "< 5 ", "(5)", "not(5 )", "not (5)", "5,a", "[5 ..6]", "]5..6 [", "5+a", "- ", "--(5)", "(a + 5)", "(a)"} {
		x := turned(small(), func(t *api.Table) { t.Rules = []api.Rule{{Cells: []string{s}, Outs: []string{"1"}}} })
		unwritten(t, x, api.ErrForm)
		unread(t, laid(x), api.ErrForm)
	}
	if count < 500 {
		t.Error(count)
	}
}

// sized tells a clean table that has just so many bytes: 14, or 20 to 2078.
func sized(bytes int) api.Table {
	t := turned(small(), func(t *api.Table) { t.Ins[0].Kind, t.Outs[0].Kind = api.KText, api.KText })
	for left := bytes - len(laid(t)); left > 0; {
		piece := min(left, 86)
		if rest := left - piece; rest > 0 && rest < 6 {
			piece -= 6
		}
		cell := min(piece-6, 40)
		t.Rules = append(t.Rules, rule(`"`+strings.Repeat("x", cell)+`"|"`+strings.Repeat("y", piece-6-cell)+`"`))
		left -= piece
	}
	return t
}

// P19.1 and P19.2: a table has 1400 bytes at most.
func TestBig(t *testing.T) {
	for n := 20; n <= 2078; n++ {
		of := sized(n)
		s := laid(of)
		if len(s) != n {
			t.Fatal(n, len(s))
		}
		if n <= mostBytes {
			read(t, written(t, of), of)
			continue
		}
		unwritten(t, of, api.ErrBig)
		unread(t, s, api.ErrBig)
		unread(t, s[:mostBytes+1], api.ErrBig)
		unread(t, s[:mostBytes], api.ErrForm)
	}
	most := wide()
	for _, r := range most.Rules {
		for _, l := range [][]string{r.Cells, r.Outs} {
			for k := range l {
				l[k] = sum(mostSource)
			}
		}
	}
	unwritten(t, turned(most, func(t *api.Table) {
		for k := range t.Ins {
			t.Ins[k].Kind = api.KText
		}
	}), api.ErrBig)
	whole := laid(small())
	for _, n := range []int{mostBytes + 1, mostBytes + 2, 2 * mostBytes, 1 << 16, 1 << 24} {
		for _, s := range []string{strings.Repeat("\x00", n), strings.Repeat("\xff", n), strings.Repeat("x", n), whole + strings.Repeat("\x00", n-len(whole))} {
			unread(t, s, api.ErrBig)
			unread(t, s[:mostBytes], api.ErrForm)
		}
	}
}

// P19.1: Clean's error counts ahead of what is not clean, and that ahead of what is too long.
func TestOrder(t *testing.T) {
	big := sized(1500)
	unwritten(t, big, api.ErrBig)
	unwritten(t, turned(big, func(t *api.Table) { t.Name = "" }), api.ErrName)
	unwritten(t, turned(big, func(t *api.Table) { t.Rules[0].Cells[0] = "1" }), api.ErrType)
	unwritten(t, turned(big, func(t *api.Table) { t.Rules[0].Cells[0] = " -" }), api.ErrForm)
	last := len(big.Rules) - 1
	unwritten(t, turned(big, func(t *api.Table) { t.Rules[last].Outs[0] += " " }), api.ErrForm)
	unwritten(t, turned(big, func(t *api.Table) { t.Rules[0].Cells[0] = " -"; t.Rules[last].Outs[0] = "1" }), api.ErrType)
	// Of what is not clean it does not matter how long it is, nor how long it would be if it were.
	near := sized(mostBytes)
	for n := range 3 {
		unwritten(t, turned(near, func(t *api.Table) { t.Rules[0].Cells[0] += strings.Repeat(" ", n+1) }), api.ErrForm)
		unwritten(t, turned(near, func(t *api.Table) { t.Rules[0].Outs[0] = strings.Repeat("(", n+1) + "null" + strings.Repeat(")", n+1) }), api.ErrForm)
	}
}

// P19.2: of the bytes of tables all beginnings, all ends, and what has more at either side.
func TestCut(t *testing.T) {
	for _, of := range append(tables(), sized(300), sized(mostBytes-1)) {
		s := laid(of)
		read(t, s, of)
		for n := range s {
			unread(t, s[:n], api.ErrForm)
			if n > 0 {
				asked(t, s[n:])
			}
		}
		for _, more := range []string{"\x00", "\x02", "\x80", "\xff", " ", "\x00\x00\x00", s} {
			for _, x := range []string{s + more, more + s} {
				if asked(t, x) {
					t.Errorf("%q is a table's", x)
				}
			}
		}
	}
}

// P19.2: the bytes of tables with one byte that is another one, or away, or put in.
func TestTurned(t *testing.T) {
	counts := map[bool]int{}
	l := tables()
	for _, of := range append(l[:2:2], l[3:]...) {
		s := laid(of)
		for n := range s {
			counts[asked(t, s[:n]+s[n+1:])]++
			for b := range 256 {
				counts[asked(t, s[:n]+string([]byte{byte(b)})+s[n+1:])]++
				counts[asked(t, s[:n]+string([]byte{byte(b)})+s[n:])]++
			}
		}
	}
	if counts[true] < 1000 || counts[false] < 100000 {
		t.Error(counts)
	}
}

// P19.2: the bytes of the example with two bytes that are other ones.
func TestTurnedTwice(t *testing.T) {
	counts := map[bool]int{}
	s := []byte(laid(turned(small(), func(t *api.Table) { t.Rules = []api.Rule{rule("1|a")} })))
	telling := []byte("\x00\x01\x02\x03\x04\x05\x06\x08\x0a\x0c\x0e\x30\x7f\x80\x81\xff-<1atno \"")
	for i := range s {
		for j := range i {
			for _, a := range telling {
				for _, b := range telling {
					x := slices.Clone(s)
					x[i], x[j] = a, b
					counts[asked(t, string(x))]++
				}
			}
		}
	}
	if counts[true] < 300 || counts[false] < 10000 {
		t.Error(counts)
	}
}

// P19.2: numbers of other forms, below 0, and too great ones, at each place where a number stands.
func TestNumbers(t *testing.T) {
	of := turned(table(), func(t *api.Table) { t.Rules = t.Rules[:1] })
	// The bytes with a # ahead of each number, and behind it.
	marked := "#\x06#fee" + "#\x06#" + "#\x00#" +
		"#\x06#" + "#\x02#i#\x02#" + "#\x02#s#\x04#" + "#\x02#b#\x06#" +
		"#\x04#" + "#\x02#o#\x02#" + "#\x04#" + "#\x02##\x01#" + "#\x02##\x80\x01#" + "#\x02#p#\x04#" + "#\x06#" + "#\x04##\x00#" + "#\x04##\x04#a\"" + "#\x04##\x02#z" +
		"#\x02#" + "#\x06#< 5" + "#\x02#-" + "#\x08#true" + "#\x0a#i + 1" + "#\x06#\"x\""
	parts := strings.Split(marked, "#")
	if s := strings.Join(parts, ""); s != laid(of) {
		t.Fatalf("%q is not %q", s, laid(of))
	}
	counts := map[bool]int{}
	for k := 1; k < len(parts); k += 2 {
		with := func(s string) string {
			x := slices.Clone(parts)
			x[k] = s
			return strings.Join(x, "")
		}
		read(t, with(parts[k]), of)
		// The same number, with a digit 0 behind.
		last := len(parts[k]) - 1
		longer := parts[k][:last] + string([]byte{parts[k][last] | 0x80})
		for n := range 12 {
			unread(t, with(longer+strings.Repeat("\x80", n)+"\x00"), api.ErrForm)
		}
		for _, n := range []int{-1, -2, -3, -64, -65, 1 << 31, -1 << 31, 1<<32 + 1, 1<<32 + 2, 1<<32 + 3, math.MaxInt, math.MaxInt - 1, math.MinInt, math.MinInt + 1} {
			counts[asked(t, with(string(lay(nil, n))))]++
		}
		for n := range 300 {
			counts[asked(t, with(string(lay(nil, n))))]++
		}
		for _, s := range []string{"", strings.Repeat("\xff", 9) + "\x02", strings.Repeat("\xff", 9) + "\x7f", strings.Repeat("\xff", 10) + "\x01", strings.Repeat("\xff", 20)} {
			unread(t, with(s), api.ErrForm)
		}
	}
	// Each number of an order may be another one (but not the other one's), and so may some kinds, and where texts end.
	if counts[true] < 2*300 || counts[false] < 5000 {
		t.Error(counts)
	}
}

// P19.2: more columns, rules, values, and bytes of texts than there may be, with all that they are said to have.
func TestMore(t *testing.T) {
	for n := range 30 {
		for _, kind := range []api.Kind{api.KInt, api.KText} {
			cols := []api.Column{}
			for k := range n {
				cols = append(cols, column(fmt.Sprint("c", k), kind))
			}
			var order []api.Value
			for k := range n {
				order = append(order, num(k))
			}
			for _, c := range []struct {
				turn        func(*api.Table)
				least, most int
			}{
				{func(t *api.Table) { t.Ins = cols }, 1, mostCols}, {func(t *api.Table) { t.Outs = cols }, 1, mostCols},
				{func(t *api.Table) { t.Policy, t.Outs[0].Order = api.PPriority, order }, 1, mostOrder},
				{func(t *api.Table) { t.Rules = slices.Repeat([]api.Rule{rule("-|a")}, n) }, 0, mostRules},
				{func(t *api.Table) { t.Name = strings.Repeat("n", n) }, 1, mostName}, {func(t *api.Table) { t.Ins[0].Name = strings.Repeat("n", n) }, 1, mostName}, {func(t *api.Table) { t.Outs[0].Name = strings.Repeat("n", n) }, 1, mostName},
			} {
				of := turned(small(), c.turn)
				if is := asked(t, laid(of)); is != (n >= c.least && n <= c.most) {
					t.Errorf("%d: %v is %t", n, of, is)
				}
			}
		}
	}
	for n := 150; n <= 210; n++ {
		x := sum(n)
		for _, r := range []api.Rule{{Cells: []string{x}, Outs: []string{"null"}}, {Cells: []string{"-"}, Outs: []string{x}}} {
			of := turned(sized(20), func(t *api.Table) { t.Rules = []api.Rule{r} })
			if is := asked(t, laid(of)); is != (n <= mostSource) {
				t.Errorf("%q is %t", x, is)
			}
		}
	}
	// A name that is so long that its length has two bytes, and one that would not end.
	for _, s := range []string{"\x80\x01" + strings.Repeat("n", 64), "\x80\x05" + strings.Repeat("n", 320), "\xfe\xff\xff\xff\xff\xff\xff\xff\xff\x01n"} {
		unread(t, s+laid(small())[2:], api.ErrForm)
	}
}

// pick tells one of several.
func pick[T any](r *rand.Rand, l ...T) T {
	return l[r.Intn(len(l))]
}

// someText tells a text that is written as what tells values of a kind is written: but one out of so many.
func someText(r *rand.Rand, kind api.Kind, odds int) string {
	if r.Intn(odds) == 0 {
		return pick(r, "", "1", `"x"`, "q", " 1", "(null)", "null ", "-")
	}
	switch kind {
	case api.KInt:
		return pick(r, "null", "1", "-1", "1 + 2", "7 * (1 - 2)", "9223372036854775807", "if null then 1 else null", "a", "a + 1")
	case api.KText:
		return pick(r, "null", `""`, `"x"`, `"\""`, `"abc" + "d"`, `"`+strings.Repeat("w", r.Intn(41))+`"`, sum(22+r.Intn(60)))
	}
	return pick(r, "null", "true", "false", "1 < 2", "null = null and true", "a = 1")
}

// someCell tells a text that is written as a cell is, likewise.
func someCell(r *rand.Rand, kind api.Kind, odds int) string {
	if r.Intn(4) == 0 {
		return "-"
	}
	x, y := someText(r, kind, odds), someText(r, kind, odds)
	if strings.ContainsAny(x, "=<i") { // these are of low levels, and "- " of none
		x, y = "null", "null"
	}
	l := []string{x, x + ", " + x, "not(" + x + ")"}
	if kind != api.KBool {
		l = append(l, "< "+x, ">= "+x+", < "+x, "["+x+"..null]", "]null.."+x+"[", y)
	}
	return pick(r, l...)
}

// someTable tells a table that is mostly clean.
func someTable(r *rand.Rand) api.Table {
	t := api.Table{Name: pick(r, "t", "fee", "_", "n123456789012345"), Policy: api.Policy(1 + r.Intn(6))}
	for k := range 1 + r.Intn(pick(r, 2, 3, mostCols)) {
		t.Ins = append(t.Ins, column(string(rune('a'+k)), pick(r, api.KInt, api.KText, api.KBool)))
	}
	t.Ins[0].Kind = api.KInt
	for k := range 1 + r.Intn(pick(r, 2, 3, mostCols)) {
		c := column(string(rune('a'+k)), pick(r, api.KInt, api.KText, api.KBool))
		if t.Policy == api.PPriority {
			for n := range 1 + r.Intn(2) {
				c.Order = append(c.Order, map[api.Kind]api.Value{api.KInt: num(r.Intn(300)*2 - 300 + n), api.KText: txt(strings.Repeat("v", r.Intn(20)*2+n)), api.KBool: truth(n)}[c.Kind])
			}
		}
		t.Outs = append(t.Outs, c)
	}
	if t.Policy == api.PCollect && len(t.Outs) == 1 {
		t.Agg = api.Agg(r.Intn(5))
	}
	odds := pick(r, 30, 1<<20, 1<<20)
	for range r.Intn(pick(r, 2, 5, mostRules+1, mostRules+1)) {
		var x api.Rule
		for _, c := range t.Ins {
			x.Cells = append(x.Cells, someCell(r, c.Kind, odds))
		}
		for _, c := range t.Outs {
			x.Outs = append(x.Outs, someText(r, c.Kind, odds))
		}
		t.Rules = append(t.Rules, x)
	}
	return t
}

// P19.1 to P19.4: tables of all sorts, clean or not, few bytes or many.
func TestMany(t *testing.T) {
	r := rand.New(rand.NewSource(19))
	counts := map[string]int{}
	seen := map[string]api.Table{}
	for range 20000 {
		of := someTable(r)
		c, _, _, e := dtable.Clean(of)
		s := laid(of)
		switch {
		case e != api.OK:
			counts["wrong"]++
			unwritten(t, of, e)
		case !alike(c, of):
			counts["unclean"]++
			unwritten(t, of, api.ErrForm)
		case len(s) > mostBytes:
			counts["big"]++
			unwritten(t, of, api.ErrBig)
			unread(t, s, api.ErrBig)
			continue
		default:
			counts["clean"]++
			read(t, written(t, of), of)
			if x, is := seen[s]; is && !alike(x, of) {
				t.Fatalf("%v and %v have the bytes %q", x, of, s)
			}
			seen[s] = copied(of)
			continue
		}
		if is := asked(t, s); is {
			t.Errorf("%v is laid as a clean table", of)
		}
	}
	for _, s := range []string{"wrong", "unclean", "big", "clean"} {
		if counts[s] < 300 {
			t.Error(s, counts)
		}
	}
}

// P19.2 and P19.3: the bytes of tables of all sorts, in which something was turned; what is read has just these bytes.
func TestManyTurned(t *testing.T) {
	r := rand.New(rand.NewSource(20))
	counts := map[bool]int{}
	for range 20000 {
		b := []byte(laid(someTable(r)))
		if len(b) > 300 {
			continue
		}
		for range 1 + r.Intn(3) {
			switch k := r.Intn(len(b)); r.Intn(4) {
			case 0:
				b[k] ^= 1 << r.Intn(8)
			case 1:
				b[k] += byte(r.Intn(5) - 2)
			case 2:
				b = append(b[:k], b[k+r.Intn(len(b)-k):]...)
			case 3:
				b = slices.Insert(b, k, byte(pick(r, 0, 2, 4, 128, r.Intn(256))))
			}
			if len(b) == 0 {
				break
			}
		}
		s := string(b)
		is := asked(t, s)
		counts[is]++
		if !is {
			continue
		}
		x, _ := tcodec.Parse(s)
		if back, e := tcodec.Bytes(x); back != s || e != api.OK {
			t.Fatalf("%q is read as %v, which has %q, %d", s, x, back, int(e))
		}
	}
	if counts[true] < 200 || counts[false] < 2000 {
		t.Error(counts)
	}
}

// P19.2: bytes that were never a table's.
func TestNoise(t *testing.T) {
	r := rand.New(rand.NewSource(21))
	for range 100000 {
		b := make([]byte, r.Intn(30))
		for k := range b {
			b[k] = byte(pick(r, 0, 2, 4, r.Intn(16), r.Intn(256)))
		}
		asked(t, string(b))
	}
}

// P19.4: unlike clean tables have unlike bytes, and none is the beginning of another one's.
func TestApart(t *testing.T) {
	l := tables()
	for i, a := range l {
		for j, b := range l {
			x, y := written(t, a), written(t, b)
			if alike(a, b) != (i == j) || strings.HasPrefix(x, y) != (i == j) {
				t.Errorf("%v and %v have %q and %q", a, b, x, y)
			}
		}
	}
}

// What is handed in is not changed, what stands behind a list's end neither; and an answer is nobody else's memory.
func TestMemory(t *testing.T) {
	of := table()
	of.Ins, of.Outs, of.Rules = append(of.Ins, column("x", 9)), append(of.Outs, column("y", 9)), append(of.Rules, rule("x|y"))
	for i, r := range of.Rules {
		of.Rules[i].Cells, of.Rules[i].Outs = append(r.Cells, "x"), append(r.Outs, "y")
	}
	before := copied(of)
	short := func(t api.Table) api.Table {
		t.Ins, t.Outs, t.Rules = t.Ins[:3], t.Outs[:2], slices.Clone(t.Rules[:3])
		for i, r := range t.Rules {
			t.Rules[i] = api.Rule{Cells: r.Cells[:3], Outs: r.Outs[:2]}
		}
		return t
	}
	s := written(t, short(of))
	x := short(of)
	x.Rules[0].Cells[0] = "<5"
	unwritten(t, x, api.ErrForm)
	if x.Rules[0].Cells[0] != "<5" {
		t.Error(x)
	}
	x.Rules[0].Cells[0] = "< 5"
	if !alike(of, before) {
		t.Errorf("%v was changed to %v", before, of)
	}

	got, _ := tcodec.Parse(s)
	again, _ := tcodec.Parse(s)
	// Each list is written over to the end of its room: no other one is to change by that.
	blot(&got)
	if !alike(again, table()) {
		t.Errorf("another answer was changed: %v", again)
	}
	read(t, s, table())
	for i := range again.Rules {
		again.Rules[i].Cells = append(again.Rules[i].Cells, "x")
		again.Rules[i].Outs = append(again.Rules[i].Outs, "y")
	}
	for i := range again.Outs {
		again.Outs[i].Order = append(again.Outs[i].Order, num(77))
	}
	again.Ins, again.Outs, again.Rules = append(again.Ins, column("x", 9)), append(again.Outs, column("y", 9)), append(again.Rules, rule("x|y"))
	for i := range again.Rules {
		r := &again.Rules[i]
		r.Cells, r.Outs = r.Cells[:len(r.Cells)-1], r.Outs[:len(r.Outs)-1]
	}
	for i := range again.Outs {
		o := &again.Outs[i]
		o.Order = o.Order[:max(len(o.Order)-1, 0)]
	}
	again.Ins, again.Outs, again.Rules = again.Ins[:3], again.Outs[:2], again.Rules[:3]
	if !alike(again, table()) {
		t.Errorf("lists of one answer share memory: %v", again)
	}
}

// blot writes over all of a table's lists, to the end of their room.
func blot(t *api.Table) {
	for _, r := range t.Rules {
		for _, l := range [][]string{r.Cells[:cap(r.Cells)], r.Outs[:cap(r.Outs)]} {
			for k := range l {
				l[k] = "blot"
			}
		}
	}
	for _, l := range [][]api.Column{t.Ins[:cap(t.Ins)], t.Outs[:cap(t.Outs)]} {
		for k := range l {
			for n := range l[k].Order {
				l[k].Order[n] = num(-99)
			}
			l[k] = column("blot", 99)
		}
	}
	for k := range t.Rules[:cap(t.Rules)] {
		t.Rules[:cap(t.Rules)][k] = rule("blot|blot")
	}
}
