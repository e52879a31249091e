package typing_test

import (
	"fmt"
	"math"
	"math/rand"
	"reflect"
	"slices"
	"strings"
	"testing"

	"decretal/api"
	"decretal/syntax"
	"decretal/typing"
)

const (
	mostCols = 6
	mostName = 16
)

// Letters that stand for kinds in the tables of these tests.
func letters() map[api.Kind]string {
	return map[api.Kind]string{api.KNull: "n", api.KInt: "i", api.KText: "t", api.KBool: "b"}
}

// kindOf tells the kind that a letter stands for.
func kindOf(letter string) api.Kind {
	for kind, s := range letters() {
		if s == letter {
			return kind
		}
	}
	panic("no kind")
}

// ops tells all ops of parts, always in one order.
func ops() []api.Op {
	var l []api.Op
	for o := api.ONeg; o <= api.OIf; o++ {
		l = append(l, o)
	}
	return l
}

// count tells how many parts an op has.
func count(o api.Op) int {
	switch o {
	case api.ONeg:
		return 1
	case api.OIf:
		return 3
	}
	return 2
}

// table tells, for each op, which kinds its parts may have, and its own kind behind the colon: the chapter's table, written out row by row.
func table() map[api.Op]string {
	const numbers = "nn:i ni:i in:i ii:i"
	const alike = "nn:b ni:b in:b ii:b nt:b tn:b tt:b"
	const truths = "nn:b nb:b bn:b bb:b"
	m := map[api.Op]string{api.ONeg: "n:i i:i", api.OAdd: numbers + " nt:t tn:t tt:t", api.OAnd: truths, api.OOr: truths}
	for _, o := range []api.Op{api.OSub, api.OMul, api.ODiv} {
		m[o] = numbers
	}
	for _, o := range []api.Op{api.OEq, api.ONe} {
		m[o] = alike + " nb:b bn:b bb:b"
	}
	for _, o := range []api.Op{api.OLt, api.OLe, api.OGt, api.OGe} {
		m[o] = alike
	}
	for _, first := range []string{"n", "b"} {
		for _, rest := range strings.Fields("nn:n ni:i in:i ii:i nt:t tn:t tt:t nb:b bn:b bb:b") {
			m[api.OIf] += " " + first + rest
		}
	}
	return m
}

// rows tells the table as a map: an op and its parts' letters, and its own letter.
func rows() map[string]string {
	m := map[string]string{}
	for o, s := range table() {
		for _, row := range strings.Fields(s) {
			parts, own, _ := strings.Cut(row, ":")
			m[fmt.Sprint(o, " ", parts)] = own
		}
	}
	return m
}

// model tells kinds by the table.
type model struct {
	rows    map[string]string
	letters map[api.Kind]string
}

func modelOf() model { return model{rows(), letters()} }

// kind tells the kind of a right expression by the chapter's words.
func (m model) kind(x api.Expr, cols []api.Column) (api.Kind, api.Errno) {
	switch x.Op {
	case api.OVal:
		return x.V.Kind, api.OK
	case api.OName:
		for _, c := range cols {
			if c.Name == x.S {
				return c.Kind, api.OK
			}
		}
		return 0, api.ErrName
	}
	parts := ""
	for _, y := range x.L {
		kind, e := m.kind(y, cols)
		if e != api.OK {
			return 0, e
		}
		parts += m.letters[kind]
	}
	own, there := m.rows[fmt.Sprint(x.Op, " ", parts)]
	if !there {
		return 0, api.ErrType
	}
	return kindOf(own), api.OK
}

func name(s string) api.Expr   { return api.Expr{Op: api.OName, S: s} }
func val(v api.Value) api.Expr { return api.Expr{Op: api.OVal, V: v} }
func number(n int) api.Expr    { return val(api.Value{Kind: api.KInt, N: n}) }
func text(s string) api.Expr   { return val(api.Value{Kind: api.KText, S: s}) }
func truth(n int) api.Expr     { return val(api.Value{Kind: api.KBool, N: n}) }
func null() api.Expr           { return val(api.Value{}) }

// op tells an op of parts.
func op(o api.Op, l ...api.Expr) api.Expr {
	return api.Expr{Op: o, L: l}
}

// columns tells columns with those kinds' letters, with names made of these letters.
func columns() []api.Column {
	return []api.Column{{Name: "i", Kind: api.KInt}, {Name: "t", Kind: api.KText}, {Name: "b", Kind: api.KBool}, {Name: "i_", Kind: api.KInt}, {Name: "T", Kind: api.KText}, {Name: "bb", Kind: api.KBool}}
}

// leaves tells values and names of each kind, and two names that columns has not.
func leaves() []api.Expr {
	return []api.Expr{
		null(), number(0), number(1), number(math.MaxInt), text(""), text("x"), text("i"), truth(0), truth(1),
		name("i"), name("t"), name("b"), name("i_"), name("T"), name("bb"), name("q"), name("I"),
	}
}

// of tells an expression of each kind and of each error, those that are values, names or ops.
func of() []api.Expr {
	n, i, t, b, q := null(), name("i"), name("t"), name("b"), name("q")
	return []api.Expr{
		n, i, t, b, q, number(3), text("u"), truth(1), op(api.OIf, b, n, n), op(api.OAdd, n, n), op(api.OAdd, t, n), op(api.OLt, i, n), op(api.OIf, n, n, t),
		op(api.ONeg, t), op(api.OAdd, b, n), op(api.ONeg, q), op(api.OIf, i, q, i), op(api.OIf, i, i, t), op(api.OSub, op(api.ONeg, t), q), op(api.OSub, q, op(api.ONeg, t)),
	}
}

// each goes through all ops of some parts, or through some at random, where there are more than most.
func each(parts []api.Expr, most int, do func(api.Expr)) {
	r := rand.New(rand.NewSource(15))
	for _, o := range ops() {
		all := 1
		for range count(o) {
			all *= len(parts)
		}
		for k := range min(all, most) {
			if all > most {
				k = r.Intn(all)
			}
			var l []api.Expr
			for range count(o) {
				l = append(l, parts[k%len(parts)])
				k /= len(parts)
			}
			do(op(o, l...))
		}
	}
}

// grow tells an expression of depth most at most.
func grow(r *rand.Rand, l []api.Expr, most int) api.Expr {
	if most == 1 || r.Intn(5) == 0 {
		return l[r.Intn(len(l))]
	}
	o := ops()[r.Intn(len(ops()))]
	var parts []api.Expr
	for range count(o) {
		parts = append(parts, grow(r, l, most-1))
	}
	return op(o, parts...)
}

// growKind tells an expression of depth most at most that has a kind, or is null: so parts go together however deep they are.
func growKind(r *rand.Rand, kind api.Kind, most int) api.Expr {
	other := []api.Kind{api.KInt, api.KText, api.KBool, api.KNull}[r.Intn(4)]
	part := func(kind api.Kind) api.Expr { return growKind(r, kind, most-1) }
	choice := r.Intn(8)
	switch {
	case choice == 0 || kind == api.KNull && most == 1:
		return null()
	case most == 1:
		own := map[api.Kind][]api.Expr{api.KInt: {name("i"), name("i_"), number(7)}, api.KText: {name("t"), name("T"), text("x")}, api.KBool: {name("b"), name("bb"), truth(1)}}[kind]
		return own[r.Intn(len(own))]
	case choice < 3 || kind == api.KNull:
		return op(api.OIf, part(api.KBool), part(kind), part(kind))
	case kind == api.KText:
		return op(api.OAdd, part(kind), part(kind))
	case kind == api.KInt && choice == 3:
		return op(api.ONeg, part(kind))
	case kind == api.KInt:
		return op(api.OAdd+api.Op(r.Intn(4)), part(kind), part(kind))
	case choice < 5:
		return op(api.OAnd+api.Op(r.Intn(2)), part(kind), part(kind))
	case other == api.KBool:
		return op(api.OEq+api.Op(r.Intn(2)), part(other), part(other))
	}
	return op(api.OEq+api.Op(r.Intn(6)), part(other), part(other))
}

// many tells expressions of all kinds, and such that have none.
func many() []api.Expr {
	l := slices.Concat(leaves(), of())
	each(leaves(), 5000, func(x api.Expr) { l = append(l, x) })
	each(of(), 8000, func(x api.Expr) { l = append(l, x) })
	r := rand.New(rand.NewSource(1))
	for range 10000 {
		l = append(l, grow(r, leaves(), 1+r.Intn(4)))
		l = append(l, growKind(r, api.Kind(r.Intn(4)), 1+r.Intn(7)))
	}
	return l
}

// asked holds an answer of Kind against what is wanted.
func asked(t *testing.T, x api.Expr, l []api.Column, want api.Kind, e api.Errno) {
	t.Helper()
	if kind, f := typing.Kind(x, l); kind != want || f != e {
		// Of one that is very deep, or holds itself, all of it would be too much to tell.
		s, no := syntax.Text(x)
		if no != api.OK {
			s = fmt.Sprint("an expression without a text: error ", int(no))
		}
		t.Fatalf("Kind(%q, %d columns): %d, %d, not %d, %d", s, len(l), int(kind), int(f), int(want), int(e))
	}
}

// parsed tells the expression that a text is.
func parsed(t *testing.T, s string) api.Expr {
	t.Helper()
	x, place, e := syntax.Parse(s)
	if e != api.OK {
		t.Fatalf("Parse(%q): %d, %d", s, place, int(e))
	}
	return x
}

// Example 1 of the chapter.
func TestExample(t *testing.T) {
	l := []api.Column{{Name: "a", Kind: api.KInt}}
	asked(t, parsed(t, "a + 1"), l, api.KInt, api.OK)
	asked(t, parsed(t, `a + "x"`), l, 0, api.ErrType)
	asked(t, parsed(t, "null = a"), l, api.KBool, api.OK)
	asked(t, parsed(t, "if null then null else null"), l, api.KNull, api.OK)
}

// P15.1: columns that may be: of each kind, of names that only look alike, up to six; whatever their orders are.
func TestColumns(t *testing.T) {
	order := []api.Value{{Kind: api.KText, S: "x"}, {Kind: 9, N: -1}, {Kind: api.KText, S: "x"}}
	for _, l := range [][]api.Column{
		nil, {}, columns(), {{Name: "a", Kind: api.KInt}}, {{Name: "_", Kind: api.KText}}, {{Name: strings.Repeat("q", mostName), Kind: api.KBool}},
		{{Name: "a", Kind: api.KInt}, {Name: "A", Kind: api.KInt}, {Name: "aa", Kind: api.KInt}, {Name: "a_", Kind: api.KInt}, {Name: "_a", Kind: api.KInt}, {Name: "iff", Kind: api.KInt}},
		{{Name: "a", Kind: api.KInt, Order: order}, {Name: "b", Kind: api.KBool, Order: make([]api.Value, 100)}, {Name: "c", Kind: api.KText, Order: []api.Value{}}},
	} {
		if e := typing.Columns(l); e != api.OK {
			t.Errorf("Columns(%v): %d", l, int(e))
		}
	}
	for n := range mostCols + 1 {
		if e := typing.Columns(columns()[:n]); e != api.OK {
			t.Errorf("Columns of %d: %d", n, int(e))
		}
	}
}

// wrongNames tells what is no name of a column.
func wrongNames() []string {
	return []string{"", " ", "1", "0a", "a b", " a", "a ", "a-b", "a.b", `"a"`, "(", "\u00e9", "a\x00", "and", "or", "not", "if", "then", "else", "true", "false", "null", strings.Repeat("q", mostName+1), strings.Repeat("q", 100000)}
}

// wrongKinds tells what is no kind of a column.
func wrongKinds() []api.Kind {
	return []api.Kind{api.KNull, -1, 4, 5, 1 << 8, 1<<8 + 1, 1<<32 + 1, math.MaxInt, math.MinInt, math.MinInt + 2}
}

// P15.1: what a column has wrong, wherever it stands.
func TestColumnsRefuses(t *testing.T) {
	for at := range mostCols {
		with := func(c api.Column) []api.Column {
			l := columns()
			l[at] = c
			return l
		}
		for _, s := range wrongNames() {
			for _, kind := range append(wrongKinds(), api.KInt, api.KText, api.KBool) {
				if e := typing.Columns(with(api.Column{Name: s, Kind: kind})); e != api.ErrName {
					t.Errorf("Columns with the name %.20q, of kind %d, at %d: %d", s, int(kind), at, int(e))
				}
			}
		}
		for _, kind := range wrongKinds() {
			if e := typing.Columns(with(api.Column{Name: "w", Kind: kind})); e != api.ErrType {
				t.Errorf("Columns with the kind %d at %d: %d", int(kind), at, int(e))
			}
		}
		for other := range mostCols {
			for _, kind := range []api.Kind{api.KInt, api.KText, api.KBool, 4} {
				// Of two of one name the one behind is wrong: its kind counts only if that of the one ahead may be.
				l, want := with(api.Column{Name: columns()[other].Name, Kind: kind}), api.ErrName
				switch {
				case kind == 4 && at <= other:
					want = api.ErrType
				case at == other:
					want = api.OK
				}
				if e := typing.Columns(l); e != want {
					t.Errorf("Columns(%v): %d, not %d", l, int(e), int(want))
				}
			}
		}
	}
}

// P15.1: of several errors the first column's counts, and of one column the name's.
func TestColumnsFirst(t *testing.T) {
	r := rand.New(rand.NewSource(3))
	names, kinds := []string{"a", "b", "c", "d", "e", "f", "g", "h", "if", ""}, []api.Kind{api.KInt, api.KText, api.KBool, api.KInt, api.KText, api.KBool, api.KNull, 4}
	has := map[api.Errno]int{}
	for range 50000 {
		var l []api.Column
		for range r.Intn(9) {
			l = append(l, api.Column{Name: names[r.Intn(len(names))], Kind: kinds[r.Intn(len(kinds))]})
		}
		want := api.OK
		seen := map[string]bool{"if": true, "": true}
		for _, c := range l {
			if seen[c.Name] {
				want = api.ErrName
				break
			}
			if c.Kind < api.KInt || c.Kind > api.KBool {
				want = api.ErrType
				break
			}
			seen[c.Name] = true
		}
		if len(l) > mostCols {
			want = api.ErrLimit
		}
		has[want]++
		if e := typing.Columns(l); e != want {
			t.Fatalf("Columns(%v): %d, not %d", l, int(e), int(want))
		}
	}
	if len(has) != 4 || slices.Min([]int{has[api.OK], has[api.ErrName], has[api.ErrType], has[api.ErrLimit]}) < 1000 {
		t.Error("too few columns of a kind", has)
	}
}

// P15.1: more than six columns are too many, whatever they are; what stands behind the list's end is none of them.
func TestColumnsLimit(t *testing.T) {
	seventh := append(columns(), api.Column{Name: "g", Kind: api.KInt})
	if e := typing.Columns(seventh); e != api.ErrLimit {
		t.Error("Columns of seven", int(e))
	}
	if e := typing.Columns(append(columns(), columns()[0])); e != api.ErrLimit {
		t.Error("Columns of seven, two of one name", int(e))
	}
	for _, n := range []int{7, 8, 100, 1000000} {
		if e := typing.Columns(make([]api.Column, n)); e != api.ErrLimit {
			t.Errorf("Columns of %d without names: %d", n, int(e))
		}
	}
	if e := typing.Columns(seventh[:mostCols]); e != api.OK {
		t.Error("Columns of six of seven", int(e))
	}
}

// P15.1: kinds go together, if they are the same, or one is nothing.
func TestFits(t *testing.T) {
	kinds := []api.Kind{api.KNull, api.KInt, api.KText, api.KBool, 4, 5, -1, 1 << 32, 1<<32 + 1, math.MaxInt, math.MinInt}
	for i, kind := range kinds {
		for j, want := range kinds {
			if got := typing.Fits(kind, want); got != (i == j || i == 0 || j == 0) {
				t.Errorf("Fits(%d, %d): %t", int(kind), int(want), got)
			}
		}
	}
}

// P15.2: the chapter's table, row by row: each op of parts of all kinds, told by values, by names, and by ops.
func TestTable(t *testing.T) {
	m := rows()
	kinds := strings.Fields("n i t b")
	ways := []map[string]api.Expr{
		{"n": null(), "i": number(1), "t": text("x"), "b": truth(1)},
		{"n": null(), "i": name("i"), "t": name("t"), "b": name("b")},
		{"n": op(api.OIf, name("b"), null(), null()), "i": op(api.OAdd, null(), null()), "t": op(api.OAdd, null(), text("")), "b": op(api.OEq, null(), null())},
	}
	for _, o := range ops() {
		for k := range 1 << (2 * count(o)) {
			parts := ""
			for i := range count(o) {
				parts += kinds[k>>(2*i)%4]
			}
			want, e := api.KNull, api.ErrType
			if own, there := m[fmt.Sprint(o, " ", parts)]; there {
				want, e = kindOf(own), api.OK
			}
			for i := range ways {
				var plain, mixed []api.Expr
				for j, s := range strings.Split(parts, "") {
					plain, mixed = append(plain, ways[i][s]), append(mixed, ways[(i+j)%len(ways)][s])
				}
				asked(t, op(o, plain...), columns(), want, e)
				asked(t, op(o, mixed...), columns(), want, e)
			}
		}
	}
}

// P15.2: texts, and their kinds.
func TestKind(t *testing.T) {
	for s, want := range map[string]string{
		"1": "i", `"x"`: "t", "true": "b", "false": "b", "null": "n", "i": "i", "t": "t", "b": "b",
		"-i": "i", "--null": "i", "i - -5": "i", "null + null": "i", "null + null + null": "i", "null + t": "t", `t + "x" + null`: "t", "null + null + i": "i", "null + (null + t)": "t",
		"i * null / 2": "i", "i = null": "b", "null = null": "b", "b = (i < 2)": "b", "b != true": "b", "t >= null": "b", "null < null": "b", "t + t <= t": "b", "i > i_": "b",
		"null and null": "b", "b and (i = 1 or null)": "b", "if b then i else null": "i", "if b then null else t": "t", "if null then b else false": "b", "if null then null else null": "n", "-(if b then null else null)": "i",
		"if b then if b then null else null else i": "i", "(if b then null else null) + t": "t", "(if null then null else null) and b": "b", "if i < 1 then t else if i < 2 then null else \"q\"": "t",
	} {
		asked(t, parsed(t, s), columns(), kindOf(want), api.OK)
	}
	for _, s := range strings.Split("-t;-b;i + t;t + i;b + b;b + null;null + b;t * null;null - t;t / t;i = t;b != i;b < b;b < null;null >= b;i <= t;i and b;null or i;t and t;if i then 1 else 2;if t then 1 else 2;if b then i else t;if b then b else i;"+
		"null + null + t;(null + null) = t;if b then null + null else t;(if b then null else null) < b;-(i = i);i < i and i;null < (null = null)", ";") {
		asked(t, parsed(t, s), columns(), 0, api.ErrType)
	}
}

// P15.2: each kind and each error that the chapter's table tells, in expressions of all kinds.
func TestKindMany(t *testing.T) {
	m := modelOf()
	told, refused := map[api.Kind]int{}, map[api.Errno]int{}
	for _, x := range many() {
		want, e := m.kind(x, columns())
		if refused[e]++; e == api.OK {
			told[want]++
		}
		asked(t, x, columns(), want, e)
	}
	for _, n := range []int{told[api.KNull], told[api.KInt], told[api.KText], told[api.KBool], refused[api.ErrName], refused[api.ErrType]} {
		if n < 500 {
			t.Error("too few expressions of a kind", told, refused)
		}
	}
}

// P15.2: errors come from left to right, those of parts ahead of what they are parts of, however deep they stand.
func TestKindFirst(t *testing.T) {
	for s, want := range map[string]api.Errno{
		"q": api.ErrName, "-q": api.ErrName, "-t + q": api.ErrType, "q + -t": api.ErrName, "i + t + q": api.ErrType, "i + (t + q)": api.ErrName, "t * q": api.ErrName, "q * t": api.ErrName, "b < q": api.ErrName,
		"if 1 then q else i": api.ErrName, "if 1 then i else q": api.ErrName, "if -t then q else i": api.ErrType, "if b then -t else q": api.ErrType, "if b then q else -t": api.ErrName, "if b then i + t else q": api.ErrType, "if q then i + t else i": api.ErrName, "if b then i else -(-(-q))": api.ErrName,
		"false and q": api.ErrName, "true or q": api.ErrName, "null + q": api.ErrName, "if true then 1 else q": api.ErrName, "if true then 1 else -t": api.ErrType, "false and -t = 1": api.ErrType, "(i and b) + q": api.ErrType, "q + (i and b)": api.ErrName, "((((i = t) = 1) = 1) = q)": api.ErrType,
		"I": api.ErrName, "_": api.ErrName, "ib": api.ErrName, "i__": api.ErrName,
	} {
		asked(t, parsed(t, s), columns(), 0, want)
	}
}

// P15.2: without columns each name is an error, and what has none is not.
func TestKindWithout(t *testing.T) {
	for _, l := range [][]api.Column{nil, {}, columns()[:0]} {
		for s, want := range map[string]api.Errno{"i": api.ErrName, "1 + i": api.ErrName, "-\"x\" + i": api.ErrType, "t": api.ErrName} {
			asked(t, parsed(t, s), l, 0, want)
		}
		asked(t, parsed(t, "1 + 1"), l, api.KInt, api.OK)
		asked(t, null(), l, api.KNull, api.OK)
	}
	// What stands behind the list's end is no column.
	asked(t, name("t"), columns()[:1], 0, api.ErrName)
}

// P15.2: of several columns of one name the first one counts, wherever they stand; there may be more than six.
func TestKindTwice(t *testing.T) {
	for _, kinds := range [][]api.Kind{{api.KInt, api.KText}, {api.KText, api.KInt}, {api.KBool, api.KInt, api.KText}, {api.KText, api.KText, api.KInt}, {api.KInt, api.KNull}, {api.KNull, api.KInt}} {
		for ahead := range 4 {
			for between := range 8 {
				l := slices.Clone(columns()[:ahead])
				for _, kind := range kinds {
					l = append(l, api.Column{Name: "x", Kind: kind})
					for k := range between {
						l = append(l, api.Column{Name: fmt.Sprint("y", k), Kind: api.KBool})
					}
				}
				asked(t, name("x"), l, kinds[0], api.OK)
				asked(t, op(api.OIf, null(), name("x"), null()), l, kinds[0], api.OK)
			}
		}
	}
}

// P15.2: columns are not asked whether they are right: a name has its column's kind, whatever that is, and of such kinds the table is asked.
func TestKindOdd(t *testing.T) {
	for _, kind := range []api.Kind{4, -1, math.MaxInt, math.MinInt} {
		l := []api.Column{{Name: "x", Kind: kind}, {Name: "n", Kind: api.KNull}, {Name: "y", Kind: kind + 1}, {Name: "if", Kind: api.KInt}, {}, {Name: "b", Kind: api.KBool}}
		for s, want := range map[string]api.Kind{"x": kind, "if b then x else null": kind, "if null then n else x": kind, "if b then x else x": kind, "x = x": api.KBool, "x != null": api.KBool, "x < x": api.KBool, "n >= x": api.KBool, "n": api.KNull, "n + n": api.KInt, "n and n": api.KBool, "if n then n else n": api.KNull, "n < n": api.KBool, "-n": api.KInt} {
			asked(t, parsed(t, s), l, want, api.OK)
		}
		for _, s := range strings.Split("-x;x + x;x + null;n - x;x and x;x or null;if x then 1 else 1;if b then x else 1;x = b;x < b;n < b;x + \"t\";1 * x", ";") {
			asked(t, parsed(t, s), l, 0, api.ErrType)
		}
		asked(t, name("if"), l, 0, api.ErrArg)
		asked(t, name(""), l, 0, api.ErrArg)
	}
}

// wrongs tells expressions that are not right.
func wrongs() []api.Expr {
	i, one := name("i"), number(1)
	l := []api.Expr{
		{}, {L: []api.Expr{i}}, {Op: 17, L: []api.Expr{i, i}}, {Op: -1}, {Op: math.MaxInt}, op(api.ONeg), op(api.ONeg, i, i), op(api.OAdd), op(api.OAdd, i), op(api.OAdd, i, i, i), op(api.OIf), op(api.OIf, name("b")), op(api.OIf, name("b"), i), op(api.OIf, name("b"), i, i, i), op(api.OEq, i), op(api.OLt), op(api.OAnd, name("b")),
		{Op: api.OVal, S: "x"}, {Op: api.OVal, L: []api.Expr{i}}, {Op: api.OName, S: "i", L: []api.Expr{i}}, {Op: api.OName, S: "i", V: one.V}, {Op: api.OAdd, S: "x", L: []api.Expr{i, i}}, {Op: api.ONeg, V: one.V, L: []api.Expr{i}},
		number(-1), number(math.MinInt), truth(2), truth(-1), text(strings.Repeat("x", 41)), text("\x7f"), val(api.Value{Kind: 4}), val(api.Value{N: 1}), val(api.Value{Kind: api.KInt, S: "x"}), val(api.Value{Kind: -1}),
	}
	for _, s := range wrongNames() {
		l = append(l, name(s))
	}
	return l
}

// P15.2: what is not right has no kind: ahead of all other errors, wherever it stands.
func TestKindWrong(t *testing.T) {
	i, q, bad := name("i"), name("q"), op(api.ONeg, name("t"))
	var odd []api.Column
	for _, s := range wrongNames() {
		odd = append(odd, api.Column{Name: s, Kind: api.KInt})
	}
	for _, x := range wrongs() {
		for _, y := range []api.Expr{x, op(api.ONeg, x), op(api.OAdd, i, x), op(api.OAdd, q, x), op(api.OAdd, bad, x), op(api.OAdd, x, q), op(api.OIf, i, bad, x), op(api.OIf, q, op(api.OAnd, i, op(api.ONeg, x)), i)} {
			asked(t, y, columns(), 0, api.ErrArg)
			asked(t, y, nil, 0, api.ErrArg)
			asked(t, y, odd, 0, api.ErrArg)
		}
	}
}

// put tells an expression with another one in place of each null.
func put(x, v api.Expr) api.Expr {
	if x.Op == api.OVal && x.V.Kind == api.KNull {
		return v
	}
	var l []api.Expr
	for _, y := range x.L {
		l = append(l, put(y, v))
	}
	x.L = l
	return x
}

// P15.3: with a value in place of each null an expression has its kind, or that of the value, or the null + null is of texts, or it fails with ErrType.
func TestNull(t *testing.T) {
	has := map[string]int{}
	values := []api.Expr{null(), number(0), number(7), text(""), text("x"), truth(0), truth(1)}
	for _, x := range many() {
		kind, e := typing.Kind(x, columns())
		if e != api.OK {
			continue
		}
		for _, v := range values {
			got, f := typing.Kind(put(x, v), columns())
			switch {
			case f == api.ErrType && got == api.KNull:
				has["none"]++
			case f != api.OK:
				t.Fatalf("%v with %v: %d, %d", x, v, int(got), int(f))
			case got == kind:
				has["its own"]++
			case kind == api.KNull && got == v.V.Kind:
				has["the value's"]++
			case kind == api.KInt && got == api.KText && v.V.Kind == api.KText:
				has["null + null"]++
			default:
				t.Fatalf("%v, of kind %d, with %v: %d", x, int(kind), v, int(got))
			}
			if v.V.Kind == api.KNull && (got != kind || f != api.OK) {
				t.Fatalf("%v with null: %d, %d", x, int(got), int(f))
			}
		}
	}
	for _, s := range []string{"none", "its own", "the value's", "null + null"} {
		if has[s] < 50 {
			t.Error("too few expressions of a kind", has)
		}
	}
}

// P15.4: an expression's kind is the same with whatever columns of other names, however they stand, and whatever orders columns have.
func TestNames(t *testing.T) {
	r := rand.New(rand.NewSource(4))
	order := []api.Value{{Kind: api.KInt, N: 1}, {Kind: 7}}
	for _, x := range many() {
		want, e := typing.Kind(x, columns())
		var own []api.Column
		for _, c := range columns() {
			if slices.Contains(syntax.Names(x), c.Name) {
				own = append(own, c)
			}
		}
		asked(t, x, own, want, e)
		slices.Reverse(own)
		asked(t, x, own, want, e)
		l := slices.Clone(own)
		for range 1 + r.Intn(6) {
			c := api.Column{Name: fmt.Sprint("o", r.Intn(4)), Kind: api.Kind(r.Intn(6) - 1), Order: order[:r.Intn(3)]}
			l = slices.Insert(l, r.Intn(len(l)+1), c)
		}
		for i := range l {
			l[i].Order = order[:r.Intn(3)]
		}
		asked(t, x, l, want, e)
		for _, c := range own {
			c.Kind = api.Kind(r.Intn(6) - 1)
			l = append(l, c)
		}
		asked(t, x, l, want, e)
	}
}

// copied tells an expression that shares no memory with another one.
func copied(x api.Expr) api.Expr {
	var l []api.Expr
	for _, y := range x.L {
		l = append(l, copied(y))
	}
	x.L = l
	return x
}

// All calls leave what they are given as it was, and keep nothing of it.
func TestOwn(t *testing.T) {
	x := parsed(t, "if b and i < 1 then t + null else \"x\"")
	room := append(columns(), api.Column{Name: "g", Kind: api.KInt, Order: []api.Value{{Kind: api.KInt, N: 1}}})
	l := room[:mostCols]
	wantX, wantRoom := copied(x), append([]api.Column(nil), room...)
	wantRoom[mostCols].Order = []api.Value{{Kind: api.KInt, N: 1}}
	for range 3 {
		asked(t, x, l, api.KText, api.OK)
		if e := typing.Columns(l); e != api.OK {
			t.Error("Columns", int(e))
		}
		if !reflect.DeepEqual(x, wantX) || !reflect.DeepEqual(room, wantRoom) {
			t.Fatal("an argument was changed")
		}
	}
	// What columns were, or an expression was, at an earlier call is not asked any more.
	l[1].Kind = api.KInt
	asked(t, x, l, 0, api.ErrType)
	l[1].Kind = api.KText
	x.L[2] = number(1)
	asked(t, x, l, 0, api.ErrType)
}

// P15.2: all calls end, and tell kinds, however deep and wide expressions are, and however many columns there are.
func TestMuch(t *testing.T) {
	const n = 300000
	left, right, deep, tests, fails := name("t"), name("t"), name("i"), name("b"), op(api.ONeg, name("t"))
	for range n {
		left, right, deep = op(api.OAdd, left, null()), op(api.OAdd, null(), right), op(api.ONeg, deep)
		tests, fails = op(api.OIf, tests, name("b"), null()), op(api.OOr, fails, name("q"))
	}
	asked(t, left, columns(), api.KText, api.OK)
	asked(t, right, columns(), api.KText, api.OK)
	asked(t, deep, columns(), api.KInt, api.OK)
	asked(t, tests, columns(), api.KBool, api.OK)
	asked(t, fails, columns(), 0, api.ErrType)
	asked(t, op(api.OAdd, deep, left), columns(), 0, api.ErrType)
	asked(t, op(api.OAdd, deep, name("q")), columns(), 0, api.ErrName)
	if _, e := typing.Kind(op(api.OAdd, deep, api.Expr{}), columns()); e != api.ErrArg {
		t.Error("Kind of a deep one that is not right", int(e))
	}
	var l []api.Column
	for k := range n {
		l = append(l, api.Column{Name: fmt.Sprint("x", k), Kind: api.Kind(1 + k%3)})
	}
	x := null()
	for k := 0; k < n; k += 3 {
		x = op(api.OAdd, x, name(fmt.Sprint("x", k)))
	}
	asked(t, x, l, api.KInt, api.OK)
	asked(t, op(api.OAdd, x, name("x1")), l, 0, api.ErrType)
	asked(t, op(api.OAdd, x, name("y")), l, 0, api.ErrName)
}

// P15.2: of an expression that holds itself no kind is told; a list at several places is as any other.
func TestEndless(t *testing.T) {
	ring := make([]api.Expr, 2)
	ring[0], ring[1] = name("i"), op(api.OAdd, ring...)
	asked(t, op(api.OAdd, ring...), columns(), 0, api.ErrArg)
	both := make([]api.Expr, 2)
	both[0], both[1] = op(api.OEq, both...), op(api.ONe, both...)
	asked(t, both[1], columns(), 0, api.ErrArg)
	twice := []api.Expr{name("i"), null()}
	for range 10 {
		twice = []api.Expr{op(api.OSub, twice...), op(api.OSub, twice...)}
	}
	asked(t, op(api.OLt, twice...), columns(), api.KBool, api.OK)
}
