package dtable_test

import (
	"fmt"
	"math"
	"math/rand"
	"reflect"
	"slices"
	"strings"
	"testing"

	"decretal/api"
	"decretal/cell"
	"decretal/dtable"
	"decretal/eval"
	"decretal/lex"
	"decretal/syntax"
	"decretal/typing"
)

const (
	mostSource = 200 // bytes of a cell's text, or of an output's
	mostCols   = 6   // inputs, or outputs
	mostRules  = 24
	mostOrder  = 8
)

func num(n int) api.Value    { return api.Value{Kind: api.KInt, N: n} }
func txt(s string) api.Value { return api.Value{Kind: api.KText, S: s} }
func truth(n int) api.Value  { return api.Value{Kind: api.KBool, N: n} }

// column tells one, with its values' order.
func column(name string, kind api.Kind, order ...api.Value) api.Column {
	return api.Column{Name: name, Kind: kind, Order: order}
}

// rule tells one, of its cells and its outputs with a | between: of either with a ; between two.
func rule(s string) api.Rule {
	cells, outs, _ := strings.Cut(s, "|")
	parts := func(s string) []string {
		var l []string
		for _, part := range strings.Split(s, ";") {
			l = append(l, strings.TrimSpace(part))
		}
		return l
	}
	return api.Rule{Cells: parts(cells), Outs: parts(outs)}
}

// table tells one of two inputs and two outputs, that is right.
func table() api.Table {
	return api.Table{
		Name: "t", Policy: api.PRule,
		Ins:   []api.Column{column("i", api.KInt), column("s", api.KText)},
		Outs:  []api.Column{column("o", api.KInt), column("p", api.KText)},
		Rules: []api.Rule{rule(`<5;-|i+1;"x"`), rule(`[ 5..i*2 ];not("a",s)|null;s`), rule(`-;null|-i;if i>7 then s+"z"else null`)},
	}
}

// one tells a table of one input i and one output o, of kinds, that goes by a policy.
func one(in, out api.Kind, p api.Policy, rules ...string) api.Table {
	t := api.Table{Name: "t", Policy: p, Ins: []api.Column{column("i", in)}, Outs: []api.Column{column("o", out)}}
	for _, s := range rules {
		t.Rules = append(t.Rules, rule(s))
	}
	return t
}

// copied tells a table that shares no memory with another one, and where an empty list is none.
func copied(t api.Table) api.Table {
	t.Ins, t.Outs, t.Rules = append([]api.Column(nil), t.Ins...), append([]api.Column(nil), t.Outs...), append([]api.Rule(nil), t.Rules...)
	for _, l := range [][]api.Column{t.Ins, t.Outs} {
		for i := range l {
			l[i].Order = append([]api.Value(nil), l[i].Order...)
		}
	}
	for i, r := range t.Rules {
		t.Rules[i] = api.Rule{Cells: append([]string(nil), r.Cells...), Outs: append([]string(nil), r.Outs...)}
	}
	return t
}

// turned tells a table in which something was turned.
func turned(t api.Table, turn func(*api.Table)) api.Table {
	t = copied(t)
	turn(&t)
	return t
}

// alike tells whether two tables are the same in all.
func alike(a, b api.Table) bool {
	return reflect.DeepEqual(copied(a), copied(b))
}

// place is where something goes wrong, and what.
type place struct {
	rule, column int
	e            api.Errno
}

// fine is told where nothing goes wrong.
func fine() place { return place{} }

// inFrame tells the place of a fault in a frame.
func inFrame(e api.Errno) place { return place{-1, 0, e} }

// refused holds what Make and Clean tell of a table that may not be against what is wanted.
func refused(t *testing.T, of api.Table, want place) {
	t.Helper()
	r, i, k, e := dtable.Make(of)
	if got := (place{i, k, e}); got != want || !reflect.DeepEqual(r, api.Ready{}) {
		t.Fatalf("Make(%v): %v, %v, not %v", of, r, got, want)
	}
	unclean(t, of, want)
}

// unclean holds what Clean tells of a table that can't be written against what is wanted.
func unclean(t *testing.T, of api.Table, want place) {
	t.Helper()
	c, i, k, e := dtable.Clean(of)
	if got := (place{i, k, e}); got != want || !reflect.DeepEqual(c, api.Table{}) {
		t.Fatalf("Clean(%v): %v, %v, not %v", of, c, got, want)
	}
}

// made tells what Make reads of a table that is right.
func made(t *testing.T, of api.Table) api.Ready {
	t.Helper()
	r, i, k, e := dtable.Make(of)
	if got := (place{i, k, e}); got != fine() || !alike(r.Table, of) || len(r.Lines) != len(of.Rules) {
		t.Fatalf("Make(%v): %v, %v", of, r, got)
	}
	return r
}

// cleaned tells what Clean makes of a table that is right.
func cleaned(t *testing.T, of api.Table) api.Table {
	t.Helper()
	c, i, k, e := dtable.Clean(of)
	if got := (place{i, k, e}); got != fine() {
		t.Fatalf("Clean(%v): %v, %v", of, c, got)
	}
	return c
}

// Example 1 of the chapter.
func TestExample(t *testing.T) {
	of := api.Table{Name: "t", Policy: api.PFirst, Ins: []api.Column{column("a", api.KInt)}, Outs: []api.Column{column("o", api.KText)}, Rules: []api.Rule{rule(`<5|"x"`)}}
	made(t, of)
	want := turned(of, func(t *api.Table) { t.Rules[0].Cells[0] = "< 5" })
	if c := cleaned(t, of); !alike(c, want) {
		t.Errorf("Clean: %v", c)
	}
}

// framed holds whether a frame is right against what is wanted: of a table without rules, and of one with a rule that is wrong.
func framed(t *testing.T, of api.Table, want api.Errno) {
	t.Helper()
	bad := turned(of, func(t *api.Table) { t.Rules = []api.Rule{{}} })
	of.Rules = nil
	if want != api.OK {
		refused(t, of, inFrame(want))
		refused(t, bad, inFrame(want))
		return
	}
	if r := made(t, of); len(r.Lines) != 0 {
		t.Fatalf("Make(%v): %v", of, r)
	}
	cleaned(t, of)
	refused(t, bad, place{0, 0, api.ErrTable})
}

// P18.1: a table has a name.
func TestName(t *testing.T) {
	for _, s := range []string{"a", "Z", "_", "fee", "a1", "nota", "If", strings.Repeat("q", 16), "i", "o"} {
		framed(t, turned(table(), func(t *api.Table) { t.Name = s }), api.OK)
	}
	for _, s := range []string{"", " ", "1", "1a", "a b", " a", "a ", "a-b", "-", "\"a\"", "if", "not", "null", "true", "a\x00", "\u00e9", strings.Repeat("q", 17), strings.Repeat("q", 100000)} {
		framed(t, turned(table(), func(t *api.Table) { t.Name = s }), api.ErrName)
	}
}

// many tells so many columns.
func many(n int) []api.Column {
	var l []api.Column
	for i := range n {
		l = append(l, column(fmt.Sprint("c", i), api.Kind(i%3)+api.KInt))
	}
	return l
}

// P18.1: inputs and outputs are right columns, 1 to 6.
func TestColumns(t *testing.T) {
	lists := []func(t *api.Table) *[]api.Column{func(t *api.Table) *[]api.Column { return &t.Ins }, func(t *api.Table) *[]api.Column { return &t.Outs }}
	for _, list := range lists {
		with := func(l []api.Column) api.Table { return turned(table(), func(t *api.Table) { *list(t) = l }) }
		framed(t, with(nil), api.ErrTable)
		framed(t, with([]api.Column{}), api.ErrTable)
		for n := 1; n <= mostCols; n++ {
			framed(t, with(many(n)), api.OK)
		}
		framed(t, with(many(mostCols+1)), api.ErrLimit)
		framed(t, with(make([]api.Column, 100000)), api.ErrLimit)
		for n := 1; n <= mostCols; n++ {
			for at := range n {
				for _, s := range []string{"", "if", "a b", "1", strings.Repeat("q", 17)} {
					l := many(n)
					l[at].Name = s
					framed(t, with(l), api.ErrName)
				}
				for _, kind := range []api.Kind{api.KNull, 4, -1, 1<<32 + 1, math.MaxInt, math.MinInt} {
					l := many(n)
					l[at].Kind = kind
					framed(t, with(l), api.ErrType)
				}
				for other := range at {
					l := many(n)
					l[at].Name = l[other].Name
					framed(t, with(l), api.ErrName)
				}
			}
		}
	}
	// An output may have the name of an input, or of the table.
	framed(t, turned(table(), func(t *api.Table) { t.Outs[0].Name, t.Outs[1].Name = "s", "i" }), api.OK)
	framed(t, turned(table(), func(t *api.Table) { t.Ins[0].Name, t.Outs[0].Name = "t", "t" }), api.OK)
}

// P18.1: inputs have no order, whatever the policy is; outputs have one where it is PPriority, and only there.
func TestOrder(t *testing.T) {
	order := []api.Value{num(3), num(1)}
	for p := api.PUnique; p <= api.PRule; p++ {
		for n := range 16 {
			of := turned(table(), func(t *api.Table) {
				t.Policy, t.Outs[1].Kind = p, api.KInt
				for k, c := range []*api.Column{&t.Ins[0], &t.Ins[1], &t.Outs[0], &t.Outs[1]} {
					if n>>k&1 != 0 {
						c.Order = order
					}
				}
			})
			want := api.ErrTable
			if n == 0 && p != api.PPriority || n == 12 && p == api.PPriority {
				want = api.OK
			}
			framed(t, of, want)
		}
		// An empty order is none.
		of := turned(one(api.KInt, api.KInt, p), func(t *api.Table) { t.Ins[0].Order, t.Outs[0].Order = []api.Value{}, []api.Value{} })
		want := api.OK
		if p == api.PPriority {
			want = api.ErrTable
		}
		framed(t, of, want)
	}
}

// rising tells so many values of a kind, no two alike: of truths there are two.
func rising(kind api.Kind, n int) []api.Value {
	var l []api.Value
	for i := range n {
		switch kind {
		case api.KInt:
			l = append(l, num(i*i-7))
		case api.KText:
			l = append(l, txt(strings.Repeat("q", i)))
		case api.KBool:
			l = append(l, truth(1-i))
		}
	}
	return l
}

// P18.1: an order has 1 to 8 right values of the output's kind, no two alike.
func TestOrderValues(t *testing.T) {
	most := map[api.Kind]int{api.KInt: mostOrder, api.KText: mostOrder, api.KBool: 2}
	wrong := map[api.Kind][]api.Value{
		api.KInt:  {{}, txt(""), truth(0), truth(1), {Kind: api.KInt, N: 99, S: "x"}, {Kind: 4, N: 99}, {Kind: -1}, {N: 1}},
		api.KText: {{}, num(0), truth(1), {Kind: api.KText, N: 1}, txt("\x1f"), txt("\x7f"), txt("\u00e9"), txt(strings.Repeat("x", 41)), {Kind: 5, S: "x"}},
		api.KBool: {{}, num(0), num(1), txt("true"), truth(2), truth(-1), {Kind: api.KBool, S: "x"}, {Kind: 1<<32 + 3}},
	}
	for kind, top := range most {
		with := func(l ...api.Value) api.Table {
			return turned(one(api.KText, kind, api.PPriority), func(t *api.Table) { t.Outs[0].Order = l })
		}
		for n := 1; n <= top; n++ {
			framed(t, with(rising(kind, n)...), api.OK)
			for at := range n {
				for _, v := range wrong[kind] {
					l := rising(kind, n)
					l[at] = v
					framed(t, with(l...), api.ErrTable)
				}
				for other := range at {
					l := rising(kind, n)
					l[at] = l[other]
					framed(t, with(l...), api.ErrTable)
				}
			}
		}
		framed(t, with(rising(kind, mostOrder+1)...), api.ErrTable)
		framed(t, with(rising(kind, 1000)...), api.ErrTable)
	}
	framed(t, turned(one(api.KInt, api.KInt, api.PPriority), func(t *api.Table) {
		t.Outs[0].Order = []api.Value{num(math.MinInt), num(math.MaxInt), num(-1), num(0)}
	}), api.OK)
	framed(t, turned(one(api.KInt, api.KText, api.PPriority), func(t *api.Table) {
		t.Outs[0].Order = []api.Value{txt(strings.Repeat("~", 40)), txt("a"), txt("A"), txt(" ")}
	}), api.OK)
	// Each output has its own order.
	for n := 1; n <= mostCols; n++ {
		of := turned(table(), func(t *api.Table) {
			t.Policy, t.Outs = api.PPriority, many(n)
			for i := range t.Outs {
				t.Outs[i].Order = rising(t.Outs[i].Kind, 1+i%2)
			}
		})
		framed(t, of, api.OK)
		for at := range n {
			framed(t, turned(of, func(t *api.Table) { t.Outs[at].Order = nil }), api.ErrTable)
			framed(t, turned(of, func(t *api.Table) { t.Outs[at].Order = rising(t.Outs[at].Kind%3+1, 2) }), api.ErrTable)
		}
	}
}

// P18.1: policies, and what may be made of all that is collected.
func TestPolicies(t *testing.T) {
	counts := map[bool]int{}
	for _, p := range []api.Policy{api.PUnique, api.PFirst, api.PPriority, api.PAny, api.PCollect, api.PRule, 0, 7, -1, 1<<32 + 1, math.MaxInt, math.MinInt} {
		for _, agg := range []api.Agg{api.AList, api.ASum, api.ALeast, api.AMost, api.ACount, 5, -1, 1<<32 + 1, math.MaxInt, math.MinInt} {
			for _, kind := range []api.Kind{api.KInt, api.KText, api.KBool} {
				for n := 1; n <= 3; n++ {
					of := turned(table(), func(t *api.Table) {
						t.Policy, t.Agg, t.Outs = p, agg, many(n)
						for i := range t.Outs {
							t.Outs[i].Kind = kind
							if p == api.PPriority {
								t.Outs[i].Order = rising(kind, 2)
							}
						}
					})
					want := api.ErrTable
					switch {
					case p < 1 || p > 6 || agg < 0 || agg > 4:
					case agg == api.AList:
						want = api.OK
					case p == api.PCollect && n == 1 && (agg == api.ACount || kind == api.KInt || agg != api.ASum && kind == api.KText):
						want = api.OK
					}
					counts[want == api.OK]++
					framed(t, of, want)
				}
			}
		}
	}
	if counts[true] != 6*9+8 || counts[false] != 12*10*9-counts[true] {
		t.Error(counts)
	}
}

// P18.1: there are 24 rules at most, and there may be none.
func TestRules(t *testing.T) {
	for n := range mostRules + 1 {
		of := one(api.KInt, api.KInt, api.PFirst, slices.Repeat([]string{"-|1"}, n)...)
		if r := made(t, of); len(r.Lines) != n {
			t.Error(n, len(r.Lines))
		}
		if c := cleaned(t, of); !alike(c, of) {
			t.Error(n, c)
		}
	}
	for _, n := range []int{mostRules + 1, mostRules + 2, 2 * mostRules, 100000} {
		refused(t, one(api.KInt, api.KInt, api.PFirst, slices.Repeat([]string{"-|1"}, n)...), inFrame(api.ErrLimit))
		refused(t, turned(table(), func(t *api.Table) { t.Rules = make([]api.Rule, n) }), inFrame(api.ErrLimit))
	}
}

// fault is a thing that goes wrong, and what is told of it.
type fault struct {
	turn func(*api.Table)
	e    api.Errno
}

// faults tells such of a frame, in the order in which the chapter names them, and at last such of a rule, of which nothing is told beside those: of one list only one is there at once.
func faults() [][]fault {
	column := func(list func(*api.Table) *[]api.Column) []fault {
		return []fault{
			{func(t *api.Table) { *list(t) = many(mostCols + 1) }, api.ErrLimit}, {func(t *api.Table) { *list(t) = nil }, api.ErrTable}, {func(t *api.Table) { (*list(t))[0].Name = "" }, api.ErrName}, {func(t *api.Table) { (*list(t))[0].Name = (*list(t))[1].Name }, api.ErrName}, {func(t *api.Table) { (*list(t))[0].Kind = 0 }, api.ErrType}, {func(t *api.Table) { (*list(t))[1].Kind = 4 }, api.ErrType}, {func(t *api.Table) { (*list(t))[1].Order = []api.Value{num(1)} }, api.ErrTable},
			// Of one column its name counts ahead of its kind; that of the first column ahead of all of the others; and all of them ahead of orders.
			{func(t *api.Table) { (*list(t))[0].Name, (*list(t))[0].Kind = "", 0 }, api.ErrName}, {func(t *api.Table) { (*list(t))[0].Kind, (*list(t))[1].Name = 0, "" }, api.ErrType}, {func(t *api.Table) { (*list(t))[0].Order, (*list(t))[1].Kind = []api.Value{num(1)}, 0 }, api.ErrType}, {func(t *api.Table) { (*list(t))[0].Order, (*list(t))[1].Name = []api.Value{num(1)}, "if" }, api.ErrName},
		}
	}
	return [][]fault{
		{{func(t *api.Table) { t.Name = "" }, api.ErrName}, {func(t *api.Table) { t.Name = "not" }, api.ErrName}},
		column(func(t *api.Table) *[]api.Column { return &t.Ins }),
		column(func(t *api.Table) *[]api.Column { return &t.Outs }),
		{{func(t *api.Table) { t.Policy = 0 }, api.ErrTable}, {func(t *api.Table) { t.Policy = 7 }, api.ErrTable}, {func(t *api.Table) { t.Agg = 9 }, api.ErrTable}, {func(t *api.Table) { t.Agg = api.ACount }, api.ErrTable}, {func(t *api.Table) { t.Policy, t.Agg = api.PCollect, api.ACount }, api.ErrTable}},
		{{func(t *api.Table) { t.Rules = make([]api.Rule, mostRules+1) }, api.ErrLimit}},
		{{func(t *api.Table) { t.Rules[0].Cells = nil }, api.OK}, {func(t *api.Table) { t.Rules[0].Outs[1] = "q" }, api.OK}},
	}
}

// P18.1: of several faults of a frame the first one counts, and all of them ahead of a rule's.
func TestFrameOrder(t *testing.T) {
	all := faults()
	for i, first := range all[:5] {
		for _, f := range first {
			refused(t, turned(table(), f.turn), inFrame(f.e))
			for _, second := range all[i+1:] {
				for _, g := range second {
					refused(t, turned(turned(table(), g.turn), f.turn), inFrame(f.e))
				}
			}
		}
	}
}

// badCells tells texts that are no cells of an input i of KInt, beside s of KText, and why.
func badCells() map[string]api.Errno {
	return map[string]api.Errno{
		"": api.ErrSyntax, "not": api.ErrSyntax, "- -": api.ErrSyntax, "1 2": api.ErrSyntax, "< i < 2": api.ErrSyntax, "01": api.ErrSyntax, "?": api.ErrSyntax, "[1..2": api.ErrSyntax, "i = 1": api.ErrSyntax,
		"9223372036854775808": api.ErrOver, "qqqqqqqqqqqqqqqqq": api.ErrBig, `"` + strings.Repeat("x", 41) + `"`: api.ErrBig, strings.Repeat(" ", 200) + "1": api.ErrBig,
		"1,2,3,4,5,6,7,8,9,10,11,12,13": api.ErrLimit, "------------1": api.ErrDeep,
		"q": api.ErrName, "< o": api.ErrName, "1, [i..p]": api.ErrName, "I": api.ErrName, "s": api.ErrType, `"x"`: api.ErrType, "true": api.ErrType, "< true": api.ErrType, "i + s": api.ErrType, "1, 2, s": api.ErrType, "[i..s]": api.ErrType, "not(s)": api.ErrType, "(i = 1)": api.ErrType,
	}
}

// badOuts tells texts that are none of an output of KInt, with the inputs i of KInt and s of KText, and why.
func badOuts() map[string]api.Errno {
	return map[string]api.Errno{
		"": api.ErrSyntax, "-": api.ErrSyntax, "1 +": api.ErrSyntax, "1, 2": api.ErrSyntax, "< 1": api.ErrSyntax, "01": api.ErrSyntax, "not(1)": api.ErrSyntax, "?": api.ErrSyntax, "i < 1 < 2": api.ErrSyntax,
		"9223372036854775808": api.ErrOver, "qqqqqqqqqqqqqqqqq": api.ErrBig, `"` + strings.Repeat("x", 41) + `"`: api.ErrBig, strings.Repeat(" ", 200) + "1": api.ErrBig, "------------1": api.ErrDeep,
		"q": api.ErrName, "o": api.ErrName, "i + p": api.ErrName, "if true then 1 else q": api.ErrName, "s": api.ErrType, `"x"`: api.ErrType, "true": api.ErrType, "i = 1": api.ErrType, "i + s": api.ErrType, "-s": api.ErrType, `if i then 1 else 2`: api.ErrType, `if true then "x" else s`: api.ErrType, `s + "x"`: api.ErrType, `null + "x"`: api.ErrType,
	}
}

// numbers tells a table of so many inputs i, s, c2 .. and outputs o, p, d2 .., of which all but s are numbers, and rules that are right.
func numbers(ins, outs, rules int) api.Table {
	t := api.Table{Name: "t", Policy: api.PAny}
	r := api.Rule{}
	for k := range ins {
		t.Ins = append(t.Ins, column(fmt.Sprint("c", k), api.KInt))
		r.Cells = append(r.Cells, "< i")
	}
	t.Ins[0].Name = "i"
	if ins > 1 {
		t.Ins[1], r.Cells[1] = column("s", api.KText), "not(s, null)"
	}
	for k := range outs {
		t.Outs = append(t.Outs, column([]string{"o", "p", "d2", "d3", "d4", "d5"}[k], api.KInt))
		r.Outs = append(r.Outs, "i * 2")
	}
	for range rules {
		t.Rules = append(t.Rules, r)
	}
	return copied(t)
}

// P18.1: a rule's parts that are wrong, at each place, and nothing ahead of them.
func TestParts(t *testing.T) {
	for _, n := range [][3]int{{2, 1, 1}, {2, 2, 3}, {3, 2, 2}, {mostCols, mostCols, 2}, {2, mostCols, 1}, {mostCols, 1, 2}} {
		of := numbers(n[0], n[1], n[2])
		made(t, of)
		for i := range n[2] {
			for k := range n[0] {
				if k == 1 {
					continue // it is a text
				}
				for s, e := range badCells() {
					refused(t, turned(of, func(t *api.Table) { t.Rules[i].Cells[k] = s }), place{i, k, e})
				}
			}
			for k := range n[1] {
				for s, e := range badOuts() {
					refused(t, turned(of, func(t *api.Table) { t.Rules[i].Outs[k] = s }), place{i, n[0] + k, e})
				}
			}
		}
	}
	refused(t, turned(numbers(mostCols, mostCols, mostRules), func(t *api.Table) { t.Rules[23].Outs[5] = "q" }), place{23, 11, api.ErrName})
}

// P18.1: a rule has as many cells as there are inputs, and as many outputs.
func TestCounts(t *testing.T) {
	for _, n := range [][2]int{{1, 1}, {1, 3}, {3, 1}, {2, 2}, {mostCols, mostCols}} {
		of := numbers(n[0], n[1], 3)
		for i := range 3 {
			for cells := range n[0] + 3 {
				for outs := range n[1] + 3 {
					if cells == n[0] && outs == n[1] {
						continue
					}
					x := turned(of, func(t *api.Table) {
						t.Rules[i].Cells = slices.Repeat([]string{"null"}, cells)
						t.Rules[i].Outs = slices.Repeat([]string{"null"}, outs)
					})
					refused(t, x, place{i, 0, api.ErrTable})
					// That is asked ahead of what the parts are.
					refused(t, turned(x, func(t *api.Table) {
						for _, l := range [][]string{t.Rules[i].Cells, t.Rules[i].Outs} {
							for k := range l {
								l[k] = "?"
							}
						}
					}), place{i, 0, api.ErrTable})
				}
			}
		}
		refused(t, turned(of, func(t *api.Table) { t.Rules[1].Cells = make([]string, 100000) }), place{1, 0, api.ErrTable})
		refused(t, turned(of, func(t *api.Table) { t.Rules[1].Outs = make([]string, 100000) }), place{1, 0, api.ErrTable})
	}
}

// P18.1: of several parts that are wrong the first one counts: rule by rule, cells ahead of outputs, from left to right.
func TestPartsOrder(t *testing.T) {
	of := numbers(3, 2, 3)
	type wrong struct {
		place
		turn func(*api.Table)
	}
	var l []wrong
	for i := range 3 {
		l = append(l, wrong{place{i, 0, api.ErrTable}, func(t *api.Table) { t.Rules[i].Cells = append(t.Rules[i].Cells, "-") }})
		for k := range 5 {
			part := func(t *api.Table) *string {
				if k < 3 {
					return &t.Rules[i].Cells[k]
				}
				return &t.Rules[i].Outs[k-3]
			}
			for s, e := range map[string]api.Errno{"?": api.ErrSyntax, "q": api.ErrName, "true": api.ErrType, "99999999999999999999": api.ErrOver} {
				l = append(l, wrong{place{i, k, e}, func(t *api.Table) { *part(t) = s }})
			}
		}
	}
	ahead := func(a, b place) bool { return a.rule < b.rule || a.rule == b.rule && a.column < b.column }
	for _, a := range l {
		refused(t, turned(of, a.turn), a.place)
		for _, b := range l {
			if ahead(a.place, b.place) {
				refused(t, turned(turned(of, a.turn), b.turn), a.place)
				refused(t, turned(turned(of, b.turn), a.turn), a.place)
			}
		}
	}
	// A text that can't be read is told ahead of names and kinds in it; and names ahead of the kind of the whole.
	for s, e := range map[string]api.Errno{"q + true +": api.ErrSyntax, "true ------------1 q": api.ErrSyntax, "true + q": api.ErrName, "q + true": api.ErrName, "(i = 1) + q": api.ErrName} {
		refused(t, turned(of, func(t *api.Table) { t.Rules[1].Outs[1] = s }), place{1, 4, e})
		refused(t, turned(of, func(t *api.Table) { t.Rules[1].Cells[2] = s }), place{1, 2, e})
	}
}

// kinds tells a table of an input of each kind, and outputs of all kinds.
func kinds() api.Table {
	return api.Table{Name: "kinds", Policy: api.PFirst, Ins: []api.Column{column("i", api.KInt), column("s", api.KText), column("b", api.KBool)}, Outs: []api.Column{column("i", api.KInt), column("s", api.KText), column("b", api.KBool)}}
}

// P18.1: cells and outputs of all kinds: what goes together with a column, and what does not.
func TestKinds(t *testing.T) {
	n := []api.Kind{api.KInt, api.KText, api.KBool}
	cells := map[string][]api.Kind{
		"-": n, "null": n, "not(null, null)": n, "< null": n[:2], "[null..null[": n[:2], "1": n[:1], "i, i + 1, null": n[:1], ">= -i": n[:1], "[1..i]": n[:1], "s": n[1:2], `not("a", s + "b")`: n[1:2], "< s": n[1:2], "b": n[2:], "true, (i < 1)": n[2:], "(s = null)": n[2:], "< b": nil, "i, s": nil, "(if b then i else null)": n[:1], "(if b then null else null)": n, "i + null": n[:1], "s + null": n[1:2], "null + null": n[:1], "x": nil,
	}
	outs := map[string][]api.Kind{
		"null": n, "if b then null else null": n, "i": n[:1], "-(i - 1) * 2": n[:1], "if s = \"x\" then i else null": n[:1], "null + null": n[:1], "s": n[1:2], `"a" + s`: n[1:2], "null + s": n[1:2], "b": n[2:], "i < 1 or b": n[2:], "null = null": n[2:], "null and null": n[2:], "s <= null": n[2:], "b < true": nil, "x": nil, "i + s": nil, "if i then 1 else 2": nil,
	}
	for k, kind := range n {
		for s, fits := range cells {
			of := turned(kinds(), func(t *api.Table) { t.Rules = []api.Rule{rule("-;-;-|null;null;null")}; t.Rules[0].Cells[k] = s })
			switch r, i, at, e := dtable.Make(of); {
			case slices.Contains(fits, kind):
				if want, _, _ := cell.Parse(s); !reflect.DeepEqual(made(t, of).Lines[0].Cells[k], want) {
					t.Errorf("%q: %v", s, r.Lines)
				}
			case i != 0 || at != k || e != api.ErrType && e != api.ErrName:
				t.Errorf("%q at %d: %d, %d, %d", s, k, i, at, int(e))
			}
		}
		for s, fits := range outs {
			of := turned(kinds(), func(t *api.Table) { t.Rules = []api.Rule{rule("-;-;-|null;null;null")}; t.Rules[0].Outs[k] = s })
			switch r, i, at, e := dtable.Make(of); {
			case slices.Contains(fits, kind):
				if want, _, _ := syntax.Parse(s); !reflect.DeepEqual(made(t, of).Lines[0].Outs[k], want) {
					t.Errorf("%q: %v", s, r.Lines)
				}
			case i != 0 || at != 3+k || e != api.ErrType && e != api.ErrName:
				t.Errorf("%q at %d: %d, %d, %d", s, k, i, at, int(e))
			}
		}
	}
}

// P18.1: what a table's rules are read as.
func TestMake(t *testing.T) {
	r := made(t, table())
	name := func(s string) api.Expr { return api.Expr{Op: api.OName, S: s} }
	val := func(v api.Value) api.Expr { return api.Expr{Op: api.OVal, V: v} }
	op := func(o api.Op, l ...api.Expr) api.Expr { return api.Expr{Op: o, L: l} }
	i, s, null := name("i"), name("s"), val(api.Value{})
	want := []api.Line{
		{Cells: []api.Cell{{Tests: []api.Test{{Kind: api.XLt, A: val(num(5))}}}, {Any: true}}, Outs: []api.Expr{op(api.OAdd, i, val(num(1))), val(txt("x"))}},
		{Cells: []api.Cell{{Tests: []api.Test{{Kind: api.XIn, A: val(num(5)), B: op(api.OMul, i, val(num(2)))}}}, {Not: true, Tests: []api.Test{{Kind: api.XEq, A: val(txt("a"))}, {Kind: api.XEq, A: s}}}}, Outs: []api.Expr{null, s}},
		{Cells: []api.Cell{{Any: true}, {Tests: []api.Test{{Kind: api.XEq, A: null}}}}, Outs: []api.Expr{op(api.ONeg, i), op(api.OIf, op(api.OGt, i, val(num(7))), op(api.OAdd, s, val(txt("z"))), null)}},
	}
	if !reflect.DeepEqual(r.Lines, want) || !dtable.SameReady(r, api.Ready{Table: table(), Lines: want}) {
		t.Errorf("%v, not %v", r.Lines, want)
	}
}

// P18.2: a table's texts as they are written, and all else as it is.
func TestClean(t *testing.T) {
	want := table()
	want.Rules = []api.Rule{rule(`< 5;-|i + 1;"x"`), rule(`[5..i * 2];not("a", s)|null;s`), rule(`-;null|-i;if i > 7 then s + "z" else null`)}
	if c := cleaned(t, table()); !alike(c, want) {
		t.Errorf("%v, not %v", c, want)
	}
	for s, want := range map[string]string{
		" - ": "-", "( 1 )": "1", "<=  1": "<= 1", "] 1 .. 2 [": "]1..2[", "not ( 1 ,2 )": "not(1, 2)", "i-(i-1),i-1-i": "i - (i - 1), i - 1 - i", "((i)),> -i": "i, > -i", "(if i<1 then 1 else(2))": "(if i < 1 then 1 else 2)",
	} {
		if c := cleaned(t, one(api.KInt, api.KInt, api.PUnique, s+"|0")); c.Rules[0].Cells[0] != want {
			t.Errorf("%q: %q, not %q", s, c.Rules[0].Cells[0], want)
		}
	}
	for s, want := range map[string]string{
		" 1 ": "1", "(i)": "i", "i+1*2": "i + 1 * 2", "(i+1)*2": "(i + 1) * 2", "((i*1)+2)": "i * 1 + 2", "if(i<1)then(1)else 2": "if i < 1 then 1 else 2", "- - i": "--i", "i - -1": "i - -1",
	} {
		if c := cleaned(t, one(api.KInt, api.KInt, api.PUnique, "-|"+s)); c.Rules[0].Outs[0] != want {
			t.Errorf("%q: %q, not %q", s, c.Rules[0].Outs[0], want)
		}
	}
	// Orders stay in their order, and the frame is as it was.
	of := turned(one(api.KText, api.KInt, api.PPriority, `"a"|1+1`), func(t *api.Table) { t.Outs[0].Order = []api.Value{num(9), num(-3), num(4)} })
	if c := cleaned(t, of); !alike(c, turned(of, func(t *api.Table) { t.Rules[0].Outs[0] = "1 + 1" })) {
		t.Errorf("%v", c)
	}
	of = turned(one(api.KText, api.KInt, api.PCollect), func(t *api.Table) { t.Agg = api.AMost })
	if c := cleaned(t, of); !alike(c, of) {
		t.Errorf("%v", c)
	}
}

// sized tells a sum of texts which is written with just n bytes, without blanks around each +, and how many + there are.
func sized(n int) (string, int) {
	var l []string
	for rest := n; rest > 0; {
		piece := min(42, rest)
		if left := rest - piece; left > 0 && left < 5 {
			piece -= 5
		}
		l = append(l, `"`+strings.Repeat("z", piece-2)+`"`)
		rest -= piece + 3
	}
	return strings.Join(l, "+"), len(l) - 1
}

// P18.2: what is written with more than 200 bytes can't be written, though it can be read: as an output, or as a cell.
func TestCleanBig(t *testing.T) {
	for n := 180; n <= 208; n++ {
		s, _ := sized(n)
		want := fine()
		if n > mostSource {
			want.e = api.ErrBig
		}
		for _, k := range []int{0, 1} {
			x := []string{`-|"x"`, `-|"x"`}
			x[k] = "-|" + s
			of := one(api.KText, api.KText, api.PFirst, x...)
			made(t, of)
			if n <= mostSource {
				if c := cleaned(t, of); len(c.Rules[k].Outs[0]) != n {
					t.Errorf("%d: %q", n, c.Rules[k].Outs[0])
				}
			} else {
				unclean(t, of, place{k, 1, api.ErrBig})
			}
			// A cell that is a Not has 5 bytes more.
			if n+5 > 208 {
				continue // it can't be read
			}
			x[k] = "not(" + s + `)|"x"`
			of = one(api.KText, api.KText, api.PFirst, x...)
			made(t, of)
			if n+5 <= mostSource {
				if c := cleaned(t, of); len(c.Rules[k].Cells[0]) != n+5 {
					t.Errorf("%d: %q", n, c.Rules[k].Cells[0])
				}
			} else {
				unclean(t, of, place{k, 0, api.ErrBig})
			}
		}
	}
}

// P18.2: of several places that can't be written the first one counts; and any that is not right ahead of all of them.
func TestCleanOrder(t *testing.T) {
	of := turned(kinds(), func(t *api.Table) {
		t.Ins[0].Kind, t.Ins[2].Kind, t.Outs[0].Kind, t.Outs[2].Kind = api.KText, api.KText, api.KText, api.KText
		t.Rules = slices.Repeat([]api.Rule{rule("-;null;i|i;s;b")}, 3)
	})
	long, _ := sized(203)
	at := func(l ...place) api.Table {
		return turned(of, func(t *api.Table) {
			for _, p := range l {
				s := long
				if p.e == api.ErrType {
					s = "1"
				}
				if p.column < 3 {
					t.Rules[p.rule].Cells[p.column] = s
				} else {
					t.Rules[p.rule].Outs[p.column-3] = s
				}
			}
		})
	}
	made(t, of)
	var l []place
	for i := range 3 {
		for k := range 6 {
			l = append(l, place{i, k, api.ErrBig})
		}
	}
	for n, p := range l {
		made(t, at(p))
		unclean(t, at(p), p)
		unclean(t, at(l[n:]...), p)
		for _, q := range l[n+1:] {
			unclean(t, at(q, p), p)
			bad, ahead := place{q.rule, q.column, api.ErrType}, place{p.rule, p.column, api.ErrType}
			refused(t, at(p, bad), bad)
			refused(t, at(ahead, q), ahead)
		}
	}
	refused(t, turned(at(l...), func(t *api.Table) { t.Policy = 9 }), inFrame(api.ErrTable))
}

// others tells tables that are unlike each other in one thing or another, right or not.
func others() []api.Table {
	l := []api.Table{{}, table(), kinds()}
	for _, turn := range []func(*api.Table){
		func(t *api.Table) { t.Name = "T" }, func(t *api.Table) { t.Name = "" }, func(t *api.Table) { t.Policy = api.PAny }, func(t *api.Table) { t.Policy = -1 }, func(t *api.Table) { t.Agg = 1 }, func(t *api.Table) { t.Agg = 77 },
		func(t *api.Table) { t.Ins = nil }, func(t *api.Table) { t.Ins = t.Ins[:1] }, func(t *api.Table) { t.Ins[0], t.Ins[1] = t.Ins[1], t.Ins[0] }, func(t *api.Table) { t.Ins[1].Name = "x" }, func(t *api.Table) { t.Ins[1].Kind = 0 }, func(t *api.Table) { t.Ins[0].Order = []api.Value{{}} }, func(t *api.Table) { t.Ins[1].Order = []api.Value{{}} }, func(t *api.Table) { t.Ins = append(t.Ins, api.Column{}) },
		func(t *api.Table) { t.Outs = nil }, func(t *api.Table) { t.Outs = t.Outs[1:] }, func(t *api.Table) { t.Outs[0].Name = "x" }, func(t *api.Table) { t.Outs[0].Kind = 9 }, func(t *api.Table) { t.Outs[0].Order = []api.Value{num(1), num(2)} }, func(t *api.Table) { t.Outs[0].Order = []api.Value{num(2), num(1)} }, func(t *api.Table) { t.Outs[0].Order = []api.Value{num(1)} }, func(t *api.Table) { t.Outs[0].Order = []api.Value{truth(1)} }, func(t *api.Table) { t.Outs[0].Order = []api.Value{txt("x")} }, func(t *api.Table) { t.Outs[0].Order = []api.Value{txt("y")} }, func(t *api.Table) { t.Outs[1].Order = []api.Value{txt("y")} },
		func(t *api.Table) { t.Ins, t.Outs = t.Outs, t.Ins }, func(t *api.Table) { t.Rules = nil }, func(t *api.Table) { t.Rules = t.Rules[:2] }, func(t *api.Table) { t.Rules = t.Rules[1:] }, func(t *api.Table) { t.Rules[0], t.Rules[1] = t.Rules[1], t.Rules[0] }, func(t *api.Table) { t.Rules = append(t.Rules, api.Rule{}) }, func(t *api.Table) { t.Rules = append(t.Rules, t.Rules[0]) },
		func(t *api.Table) { t.Rules[0].Cells[0] = "< 5" }, func(t *api.Table) { t.Rules[2].Cells[1] = "" }, func(t *api.Table) { t.Rules[1].Outs[1] = "S" }, func(t *api.Table) { t.Rules[1].Outs[0] = "i + 1" }, func(t *api.Table) { t.Rules[1].Cells = nil }, func(t *api.Table) { t.Rules[1].Outs = nil }, func(t *api.Table) { t.Rules[1].Cells = t.Rules[1].Cells[:1] }, func(t *api.Table) { t.Rules[1].Outs = append(t.Rules[1].Outs, "") }, func(t *api.Table) { t.Rules[0].Cells, t.Rules[0].Outs = t.Rules[0].Outs, t.Rules[0].Cells },
		func(t *api.Table) {
			t.Rules[0].Cells, t.Rules[0].Outs = append(t.Rules[0].Cells, t.Rules[0].Outs[0]), t.Rules[0].Outs[1:]
		},
	} {
		l = append(l, turned(table(), turn))
	}
	return l
}

// hollow tells a table whose empty lists are not none.
func hollow(t api.Table) api.Table {
	t = copied(t)
	t.Ins, t.Outs, t.Rules = append([]api.Column{}, t.Ins...), append([]api.Column{}, t.Outs...), append([]api.Rule{}, t.Rules...)
	for _, l := range [][]api.Column{t.Ins, t.Outs} {
		for i := range l {
			l[i].Order = append([]api.Value{}, l[i].Order...)
		}
	}
	for i, r := range t.Rules {
		t.Rules[i] = api.Rule{Cells: append([]string{}, r.Cells...), Outs: append([]string{}, r.Outs...)}
	}
	return t
}

// P18.3: tables are the same only if nothing is unlike, whether they are right or not.
func TestSame(t *testing.T) {
	l := others()
	for i, a := range l {
		for j, b := range l {
			for _, c := range []api.Table{b, hollow(b)} {
				if dtable.Same(a, c) != (i == j) || dtable.Same(c, a) != (i == j) {
					t.Errorf("Same(%v, %v) is not %t", a, c, i == j)
				}
			}
		}
	}
}

// P18.3: tables that were read likewise, with their rules.
func TestSameReady(t *testing.T) {
	var l []api.Ready
	lines := func() []api.Line { return made(t, table()).Lines }
	for _, of := range others() {
		l = append(l, api.Ready{Table: of}, api.Ready{Table: of, Lines: lines()})
	}
	x := api.Expr{Op: api.OName, S: "x"}
	for _, turn := range []func(m []api.Line) []api.Line{
		func(m []api.Line) []api.Line { return m[:2] }, func(m []api.Line) []api.Line { return m[1:] }, func(m []api.Line) []api.Line { m[0], m[1] = m[1], m[0]; return m }, func(m []api.Line) []api.Line { return append(m, api.Line{}) }, func(m []api.Line) []api.Line { return append(m, m[0]) }, func(m []api.Line) []api.Line { return make([]api.Line, 3) },
		func(m []api.Line) []api.Line { m[0].Cells[0].Not = true; return m }, func(m []api.Line) []api.Line { m[0].Cells[1] = api.Cell{}; return m }, func(m []api.Line) []api.Line { m[1].Cells[0].Tests[0].OutLo = true; return m }, func(m []api.Line) []api.Line { m[1].Cells[0].Tests[0].B = x; return m }, func(m []api.Line) []api.Line { m[2].Cells = nil; return m }, func(m []api.Line) []api.Line { m[2].Cells = m[2].Cells[:1]; return m }, func(m []api.Line) []api.Line { m[2].Cells = append(m[2].Cells, api.Cell{}); return m },
		func(m []api.Line) []api.Line { m[0].Outs[0] = x; return m }, func(m []api.Line) []api.Line { m[2].Outs[1].L[1] = x; return m }, func(m []api.Line) []api.Line { m[2].Outs[1].L = nil; return m }, func(m []api.Line) []api.Line { m[1].Outs[0].V = num(0); return m }, func(m []api.Line) []api.Line { m[1].Outs = nil; return m }, func(m []api.Line) []api.Line { m[1].Outs = append(m[1].Outs, api.Expr{}); return m },
	} {
		l = append(l, api.Ready{Table: table(), Lines: turn(lines())})
	}
	for i, a := range l {
		for j, b := range l {
			if dtable.SameReady(a, b) != (i == j) {
				t.Errorf("SameReady(%v, %v) is not %t", a, b, i == j)
			}
		}
		b := api.Ready{Table: hollow(a.Table), Lines: append([]api.Line{}, a.Lines...)}
		for k, line := range b.Lines {
			b.Lines[k] = api.Line{Cells: append([]api.Cell{}, line.Cells...), Outs: append([]api.Expr{}, line.Outs...)}
			for n := range b.Lines[k].Outs {
				b.Lines[k].Outs[n].L = append([]api.Expr{}, b.Lines[k].Outs[n].L...)
			}
			for n := range b.Lines[k].Cells {
				b.Lines[k].Cells[n].Tests = append([]api.Test{}, b.Lines[k].Cells[n].Tests...)
			}
		}
		if !dtable.SameReady(a, b) || !dtable.SameReady(b, a) {
			t.Errorf("an empty list is not as none: %v", a)
		}
	}
}

// pick tells one of several.
func pick[T any](r *rand.Rand, l ...T) T {
	return l[r.Intn(len(l))]
}

// someColumns tells columns that are mostly right, with orders that mostly are as a policy asks for.
func someColumns(r *rand.Rand, n int, ordered bool) []api.Column {
	var l []api.Column
	for k := range n {
		c := column(string(rune('a'+k)), pick(r, api.KInt, api.KInt, api.KText, api.KBool))
		switch r.Intn(60) {
		case 0:
			c.Name = pick(r, "", "if", "a", "b", "9")
		case 1:
			c.Kind = pick[api.Kind](r, 0, 4, -1)
		case 2:
			ordered = !ordered
		}
		if ordered {
			c.Order = rising(c.Kind, 1+r.Intn(2))
			if r.Intn(30) == 0 {
				c.Order = append(c.Order, pick(r, num(-7), txt(""), truth(1), api.Value{}, num(50), txt("x")))
			}
		}
		l = append(l, c)
	}
	return l
}

// someText tells a text out of which something mostly comes of a kind, laid with blanks or without.
func someText(r *rand.Rand, ins []api.Column, kind api.Kind, inTest bool) string {
	name := "null"
	for _, c := range ins {
		if c.Kind == kind && r.Intn(3) > 0 || r.Intn(200) == 0 {
			name = c.Name
		}
	}
	s := map[api.Kind][]string{
		api.KInt:  {"1", "$", "$+1", "$*($-1)", "-$", "7/2", "(if $>1 then $ else null)", "0-$-1", "5-(3-$)"},
		api.KText: {`"x"`, `$+"y"`, `"\"\\"`, `(if $ = null then "q" else "r")`, "$"},
		api.KBool: {"true", "false", "($ = null)", "$", "($ or 1<2 and $)", "(1 < 2 or $)", "(null=$)"},
	}[kind]
	if len(s) == 0 || r.Intn(60) == 0 {
		return pick(r, "null", "null", "q", "1", `"x"`, "true", "1 2", "", "if", "01")
	}
	text := strings.ReplaceAll(pick(r, s...), "$", name)
	if r.Intn(5) == 0 {
		text = "( " + text + ")"
	}
	if !inTest && r.Intn(4) == 0 {
		text = fmt.Sprintf("if %s=%s then %s else null", name, name, text)
	}
	return text
}

// someCell tells a text that may be a cell.
func someCell(r *rand.Rand, ins []api.Column, kind api.Kind) string {
	if r.Intn(4) == 0 {
		return "-"
	}
	var l []string
	for range 1 + r.Intn(3) {
		x, y := someText(r, ins, kind, true), someText(r, ins, kind, true)
		if kind == api.KBool && r.Intn(40) > 0 {
			l = append(l, x)
			continue
		}
		l = append(l, pick(r, x, "<"+x, ">= "+x, "["+x+".."+y+"]", "] "+x+" .. "+y+" ["))
	}
	s := strings.Join(l, pick(r, ",", ", ", " ,"))
	if r.Intn(4) == 0 {
		s = "not(" + s + ")"
	}
	if r.Intn(60) == 0 {
		s = pick(r, "not", s+",", s+")", "", "["+s, s+" ?")
	}
	return s
}

// someTable tells a table, that may be right.
func someTable(r *rand.Rand) api.Table {
	p := api.Policy(1 + r.Intn(6))
	t := api.Table{Name: pick(r, "t", "fee", "_", "i"), Policy: p, Ins: someColumns(r, 1+r.Intn(3), false), Outs: someColumns(r, 1+r.Intn(3), p == api.PPriority)}
	switch {
	case r.Intn(60) == 0:
		t.Name, t.Policy = pick(r, "", "x", "if"), pick[api.Policy](r, 0, 7, 1, 3)
	case p == api.PCollect && r.Intn(2) == 0:
		t.Agg = api.Agg(r.Intn(5))
	}
	for range r.Intn(5) {
		var rule api.Rule
		for _, c := range t.Ins {
			rule.Cells = append(rule.Cells, someCell(r, t.Ins, c.Kind))
		}
		for _, c := range t.Outs {
			rule.Outs = append(rule.Outs, someText(r, t.Ins, c.Kind, false))
		}
		if r.Intn(60) == 0 {
			rule.Outs = append(rule.Outs, "null")
		}
		t.Rules = append(t.Rules, rule)
	}
	return t
}

// frameFaults tells all that is wrong with a frame, in the order of the chapter's words.
func frameFaults(t api.Table) []place {
	var l []place
	wrong := func(is bool, e api.Errno) {
		if is {
			l = append(l, inFrame(e))
		}
	}
	wrong(!lex.Name(t.Name), api.ErrName)
	for _, c := range []struct {
		l       []api.Column
		ordered bool
	}{{t.Ins, false}, {t.Outs, t.Policy == api.PPriority}} {
		e := typing.Columns(c.l)
		wrong(e != api.OK, e)
		wrong(len(c.l) == 0, api.ErrTable)
		for _, x := range c.l {
			seen := map[api.Value]int{}
			for _, v := range x.Order {
				seen[v]++
				wrong(v.Kind != x.Kind || seen[v] > 1, api.ErrTable)
			}
			wrong(c.ordered && (len(x.Order) < 1 || len(x.Order) > 8) || !c.ordered && len(x.Order) > 0, api.ErrTable)
		}
	}
	wrong(t.Policy < 1 || t.Policy > 6 || t.Agg < 0 || t.Agg > 4, api.ErrTable)
	wrong(t.Agg != api.AList && (t.Policy != api.PCollect || len(t.Outs) != 1), api.ErrTable)
	for _, c := range t.Outs {
		wrong(t.Agg == api.ASum && c.Kind != api.KInt || (t.Agg == api.ALeast || t.Agg == api.AMost) && c.Kind == api.KBool, api.ErrTable)
	}
	wrong(len(t.Rules) > 24, api.ErrLimit)
	return l
}

// wanted tells what Make is to tell, by the chapter's words: all that is wrong, of which the first one counts, and the lines, as far as they can be read.
func wanted(t api.Table) ([]place, []api.Line) {
	if l := frameFaults(t); len(l) > 0 {
		return l, nil
	}
	var l []place
	var lines []api.Line
	for i, r := range t.Rules {
		wrong := func(k int, e api.Errno) {
			if e != api.OK {
				l = append(l, place{i, k, e})
			}
		}
		if len(r.Cells) != len(t.Ins) || len(r.Outs) != len(t.Outs) {
			wrong(0, api.ErrTable)
			continue
		}
		var line api.Line
		for k, s := range r.Cells {
			c, _, e := cell.Parse(s)
			wrong(k, e)
			wrong(k, cell.Typed(c, t.Ins[k].Kind, t.Ins))
			line.Cells = append(line.Cells, c)
		}
		for k, s := range r.Outs {
			x, _, e := syntax.Parse(s)
			wrong(len(t.Ins)+k, e)
			kind, e := typing.Kind(x, t.Ins)
			wrong(len(t.Ins)+k, e)
			if kind != api.KNull && kind != t.Outs[k].Kind {
				wrong(len(t.Ins)+k, api.ErrType)
			}
			line.Outs = append(line.Outs, x)
		}
		lines = append(lines, line)
	}
	return l, lines
}

// P18.1, P18.2 and P18.4: tables of all sorts, right or not: what is read, where it goes wrong, and what is clean.
func TestMany(t *testing.T) {
	r, has, rules := rand.New(rand.NewSource(18)), map[api.Errno]int{}, 0
	for range 20000 {
		of := someTable(r)
		l, lines := wanted(of)
		if len(l) > 0 {
			has[l[0].e]++
			refused(t, of, l[0])
			continue
		}
		has[api.OK]++
		rules += len(lines)
		ready := made(t, of)
		if !dtable.SameReady(ready, api.Ready{Table: of, Lines: lines}) {
			t.Fatalf("Make(%v): %v, not %v", of, ready.Lines, lines)
		}
		clean(t, of, ready)
	}
	for _, e := range []api.Errno{api.OK, api.ErrTable, api.ErrName, api.ErrType, api.ErrSyntax} {
		if has[e] < 500 {
			t.Error("too few tables of a kind", has)
		}
	}
	if rules < 5000 {
		t.Error("too few rules", rules)
	}
}

// clean holds a right table's clean one against the chapter's words: its texts are as they are written, it is right, and clean again, and its rules are read as they were.
func clean(t *testing.T, of api.Table, ready api.Ready) {
	t.Helper()
	want := copied(of)
	for i, line := range ready.Lines {
		for k, c := range line.Cells {
			want.Rules[i].Cells[k], _ = cell.Text(c)
		}
		for k, x := range line.Outs {
			want.Rules[i].Outs[k], _ = syntax.Text(x)
		}
	}
	c := cleaned(t, of)
	if !alike(c, want) || !dtable.Same(c, want) {
		t.Fatalf("Clean(%v): %v, not %v", of, c, want)
	}
	if again := made(t, c); !dtable.SameReady(again, api.Ready{Table: c, Lines: ready.Lines}) {
		t.Fatalf("%v is read as %v, not %v", c, again.Lines, ready.Lines)
	}
	if again := cleaned(t, c); !alike(again, c) {
		t.Fatalf("%v is not clean: %v", c, again)
	}
}

// P18.4: also of texts that are as long, as deep, and as many as they may be.
func TestCleanMost(t *testing.T) {
	long, _ := sized(mostSource)
	tests := strings.Repeat("1,", 11) + "1"
	deep := strings.Repeat("-", 11) + "1"
	for _, of := range []api.Table{
		one(api.KText, api.KText, api.PFirst, "-|"+long, long+"|null"),
		one(api.KInt, api.KInt, api.PFirst, tests+"|"+deep, "not("+tests+")|"+deep, "["+deep+".."+deep+"],"+deep+"|0", strings.Repeat("(", 90)+"1"+strings.Repeat(")", 90)+"|1"),
		numbers(mostCols, mostCols, mostRules),
	} {
		clean(t, of, made(t, of))
	}
}

// P4 of the whole: the rules of a table that was read tell no error of kinds or names, of whatever row of the inputs' kinds, or null; and an output tells a value of its kind, or null.
func TestSound(t *testing.T) {
	r, asked := rand.New(rand.NewSource(4)), 0
	for range 20000 {
		ready, _, _, e := dtable.Make(someTable(r))
		if e != api.OK {
			continue
		}
		var row []api.Value
		for _, c := range ready.Table.Ins {
			row = append(row, pick(r, api.Value{}, map[api.Kind]api.Value{api.KInt: num(r.Intn(9) - 3), api.KText: txt(pick(r, "", "x", "xy")), api.KBool: truth(r.Intn(2))}[c.Kind]))
		}
		for _, line := range ready.Lines {
			for k, c := range line.Cells {
				if _, e := cell.Holds(c, row[k], ready.Table.Ins, row); e == api.ErrType || e == api.ErrName || e == api.ErrArg {
					t.Fatalf("%v: %v tells %d of %v", ready.Table, c, int(e), row)
				}
			}
			for k, x := range line.Outs {
				v, e := eval.Eval(x, ready.Table.Ins, row)
				if asked++; e == api.ErrType || e == api.ErrName || e == api.ErrArg || v.Kind != api.KNull && v.Kind != ready.Table.Outs[k].Kind {
					t.Fatalf("%v: %v tells %v, %d of %v", ready.Table, x, v, int(e), row)
				}
			}
		}
	}
	if asked < 2000 {
		t.Error("too few outputs", asked)
	}
}

// roomy tells a list with something behind its end, and all of it.
func roomy[T any](l []T, more T) ([]T, []T) {
	all := append(slices.Clone(l), more, more)
	return all[:len(l)], all
}

// All calls leave what they are given as it was, what stands behind a list's end too, and keep nothing of it.
func TestOwn(t *testing.T) {
	of := turned(table(), func(t *api.Table) {
		t.Policy = api.PPriority
		t.Outs[0].Order, t.Outs[1].Order = []api.Value{num(1), num(2)}, []api.Value{txt("x")}
	})
	var all []any
	keep := func(l any) { all = append(all, l) }
	var ins, outs []api.Column
	var rules []api.Rule
	for i := range of.Rules {
		cells, more := roomy(of.Rules[i].Cells, "spare")
		keep(more)
		results, more := roomy(of.Rules[i].Outs, "spare")
		keep(more)
		of.Rules[i] = api.Rule{Cells: cells, Outs: results}
	}
	of.Outs[0].Order, _ = roomy(of.Outs[0].Order, num(77))
	keep(of.Outs[0].Order[:4])
	of.Ins, ins = roomy(of.Ins, column("spare", api.KBool))
	of.Outs, outs = roomy(of.Outs, column("spare", api.KBool))
	of.Rules, rules = roomy(of.Rules, rule("1|2"))
	keep(ins)
	keep(outs)
	keep(rules)
	was, before := copied(of), fmt.Sprint(all...)
	for range 3 {
		r, c := made(t, of), cleaned(t, of)
		if !dtable.Same(of, was) || !dtable.SameReady(r, r) || fmt.Sprint(all...) != before {
			t.Fatal("an argument was changed")
		}
		// What was told is written over, and into the room behind it.
		for _, x := range []*api.Table{&r.Table, &c} {
			scribble(x)
		}
		r.Lines[0].Cells[0].Tests[0].A.V, r.Lines[2].Outs[1].L[0] = num(99), api.Expr{}
		if !alike(of, was) || fmt.Sprint(all...) != before {
			t.Fatal("an answer shares memory with an argument")
		}
	}
	// What an argument was at an earlier call is not asked any more, and what was told of it then stays.
	r, c := made(t, of), cleaned(t, of)
	ready, clean := fmt.Sprint(r), fmt.Sprint(c)
	scribble(&of)
	if fmt.Sprint(r) != ready || fmt.Sprint(c) != clean {
		t.Error("an answer hangs on an argument that was changed behind the call")
	}
}

// scribble writes over all lists of a table, and over the room behind them.
func scribble(t *api.Table) {
	for _, l := range []*[]api.Column{&t.Ins, &t.Outs} {
		for i := range *l {
			order := (*l)[i].Order
			for k := range order[:cap(order)] {
				order[:cap(order)][k] = num(1000 + k)
			}
		}
		for i := range (*l)[:cap(*l)] {
			(*l)[:cap(*l)][i] = column("scribble", 9)
		}
	}
	for _, r := range t.Rules {
		for _, l := range [][]string{r.Cells, r.Outs} {
			for k := range l[:cap(l)] {
				l[:cap(l)][k] = "scribble"
			}
		}
	}
	for i := range t.Rules[:cap(t.Rules)] {
		t.Rules[:cap(t.Rules)][i] = api.Rule{}
	}
}

// No two lists of one answer share memory, also where those of the argument do.
func TestApart(t *testing.T) {
	columns, cells := []api.Column{column("i", api.KInt), column("j", api.KInt)}, []string{"1", "i"}
	order := []api.Value{num(1), num(2)}
	same := api.Rule{Cells: cells, Outs: cells}
	of := api.Table{Name: "t", Policy: api.PRule, Ins: columns, Outs: columns, Rules: []api.Rule{same, same}}
	r, c := made(t, of), cleaned(t, of)
	for _, x := range []*api.Table{&r.Table, &c} {
		x.Ins[0].Name, x.Rules[0].Cells[0], x.Rules[1].Outs[1] = "z", "z", "z"
		if x.Outs[0].Name != "i" || x.Rules[0].Outs[0] != "1" || x.Rules[1].Cells[0] != "1" || x.Rules[1].Cells[1] != "i" || x.Rules[0].Outs[1] != "i" {
			t.Errorf("lists of an answer share memory: %v", x)
		}
	}
	r.Lines[0].Cells[0].Tests[0].A, r.Lines[0].Outs[1].S = api.Expr{}, "z"
	if want := made(t, of).Lines; !reflect.DeepEqual(r.Lines[1], want[1]) || reflect.DeepEqual(r.Lines[0], want[0]) {
		t.Errorf("lists of an answer share memory: %v", r.Lines)
	}
	of = turned(of, func(t *api.Table) { t.Policy, t.Outs[0].Order, t.Outs[1].Order = api.PPriority, order, order })
	r, c = made(t, of), cleaned(t, of)
	for _, x := range []*api.Table{&r.Table, &c} {
		x.Outs[0].Order[0] = num(5)
		if x.Outs[1].Order[0] != num(1) || order[0] != num(1) {
			t.Errorf("lists of an answer share memory: %v", x)
		}
	}
}

// All calls end, whatever they are given, however much it is.
func TestMuch(t *testing.T) {
	const n = 100000
	long := strings.Repeat("-", n)
	refused(t, turned(table(), func(t *api.Table) { t.Rules[1].Cells[1] = long }), place{1, 1, api.ErrBig})
	refused(t, turned(table(), func(t *api.Table) { t.Rules[2].Outs[1] = long }), place{2, 3, api.ErrBig})
	refused(t, turned(one(api.KInt, api.KInt, api.PPriority), func(t *api.Table) { t.Outs[0].Order = rising(api.KInt, n) }), inFrame(api.ErrTable))
	refused(t, turned(one(api.KInt, api.KInt, api.PFirst), func(t *api.Table) { t.Ins[0].Order = rising(api.KInt, n) }), inFrame(api.ErrTable))
	refused(t, api.Table{}, inFrame(api.ErrName))
	big := turned(table(), func(t *api.Table) {
		t.Ins, t.Rules = make([]api.Column, n), slices.Repeat(t.Rules, n)
		t.Ins[0].Order = rising(api.KInt, n)
	})
	other := copied(big)
	other.Rules[3*n-1].Outs[1] = "other"
	if !dtable.Same(big, copied(big)) || dtable.Same(big, other) {
		t.Error("Same of many rules")
	}
	// An expression that holds itself has no end; it is as itself, and not as others.
	ring := make([]api.Expr, 2)
	ring[0], ring[1] = api.Expr{Op: api.OName, S: "i"}, api.Expr{Op: api.OAdd, L: ring}
	with := func(x api.Expr) api.Ready {
		return api.Ready{Lines: []api.Line{{Cells: []api.Cell{{Tests: []api.Test{{Kind: api.XEq, A: x}}}}, Outs: []api.Expr{x}}}}
	}
	if !dtable.SameReady(with(ring[1]), with(ring[1])) || dtable.SameReady(with(ring[1]), with(ring[0])) {
		t.Error("SameReady of what has no end")
	}
}
