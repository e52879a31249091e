package eval_test

import (
	"fmt"
	"math"
	"math/big"
	"math/rand"
	"reflect"
	"slices"
	"strings"
	"testing"

	"decretal/api"
	"decretal/eval"
	"decretal/syntax"
	"decretal/typing"
	"decretal/value"
)

const mostText = 40 // bytes of a text

func num(n int) api.Value      { return api.Value{Kind: api.KInt, N: n} }
func txt(s string) api.Value   { return api.Value{Kind: api.KText, S: s} }
func truth(n int) api.Value    { return api.Value{Kind: api.KBool, N: n} }
func null() api.Value          { return api.Value{} }
func name(s string) api.Expr   { return api.Expr{Op: api.OName, S: s} }
func val(v api.Value) api.Expr { return api.Expr{Op: api.OVal, V: v} }

// op tells an op of parts.
func op(o api.Op, l ...api.Expr) api.Expr {
	return api.Expr{Op: o, L: l}
}

// ops tells all ops of parts, always in one order.
func ops() []api.Op {
	var l []api.Op
	for o := api.ONeg; o <= api.OIf; o++ {
		l = append(l, o)
	}
	return l
}

// count tells how many parts an op has.
func count(o api.Op) int {
	switch o {
	case api.ONeg:
		return 1
	case api.OIf:
		return 3
	}
	return 2
}

// letter tells a letter that stands for a value in the tables of these tests: nothing, a number, a text, false, true.
func letter(v api.Value) string {
	switch {
	case v.Kind == api.KInt:
		return "i"
	case v.Kind == api.KText:
		return "t"
	case v == truth(0):
		return "F"
	case v == truth(1):
		return "T"
	}
	return "n"
}

// truths tells, of the values of and's and or's parts, what they tell: the chapter's table, written out row by row.
func truths() map[api.Op]string {
	return map[api.Op]string{
		api.OAnd: "FF:F FT:F FN:F TF:F TT:T TN:N NF:F NT:N NN:N",
		api.OOr:  "FF:F FT:T FN:N TF:T TT:T TN:T NF:N NT:T NN:N",
	}
}

// allowed tells which values an op may have as parts.
func allowed() map[api.Op]string {
	const numbers = " nn ni in ii "
	const alike = numbers + "nt tn tt "
	m := map[api.Op]string{api.ONeg: " n i ", api.OAdd: alike, api.OIf: " n F T "}
	for _, o := range []api.Op{api.OSub, api.OMul, api.ODiv} {
		m[o] = numbers
	}
	for _, o := range []api.Op{api.OEq, api.ONe} {
		m[o] = alike + "nF nT Fn Tn FF FT TF TT "
	}
	for _, o := range []api.Op{api.OLt, api.OLe, api.OGt, api.OGe} {
		m[o] = alike
	}
	for _, o := range []api.Op{api.OAnd, api.OOr} {
		m[o] = " nn nF nT Fn Tn FF FT TF TT "
	}
	return m
}

// model tells values by the chapter's words.
type model struct {
	allowed, truths map[api.Op]string
	cols            []api.Column
	row             []api.Value
}

func modelOf(cols []api.Column, row []api.Value) model {
	return model{allowed(), truths(), cols, row}
}

// bigOf tells what an op makes of two numbers, reckoned without bounds.
func bigOf(o api.Op, a, b int) (int, api.Errno) {
	x, y, z := big.NewInt(int64(a)), big.NewInt(int64(b)), new(big.Int)
	switch o {
	case api.OAdd:
		z.Add(x, y)
	case api.OSub:
		z.Sub(x, y)
	case api.OMul:
		z.Mul(x, y)
	case api.ODiv:
		if b == 0 {
			return 0, api.ErrZero
		}
		z.Quo(x, y)
	}
	if !z.IsInt64() {
		return 0, api.ErrOver
	}
	return int(z.Int64()), api.OK
}

// truthOf tells the value that a truth is.
func truthOf(is bool) api.Value {
	if is {
		return truth(1)
	}
	return truth(0)
}

// compare tells what an op says of two numbers or two texts.
func compare(o api.Op, less, same bool) api.Value {
	switch o {
	case api.OLt:
		return truthOf(less)
	case api.OLe:
		return truthOf(less || same)
	case api.OGt:
		return truthOf(!less && !same)
	}
	return truthOf(!less)
}

// made tells what an op makes of values that it may have as parts.
func (m model) made(o api.Op, l []api.Value) (api.Value, api.Errno) {
	a, b := l[0], l[len(l)-1]
	switch o {
	case api.OEq:
		return truthOf(a == b), api.OK
	case api.ONe:
		return truthOf(a != b), api.OK
	case api.OAnd, api.OOr:
		key := strings.ToUpper(letter(a)+letter(b)) + ":"
		i := strings.Index(m.truths[o], key)
		return map[byte]api.Value{'F': truth(0), 'T': truth(1), 'N': null()}[m.truths[o][i+len(key)]], api.OK
	}
	switch {
	case a.Kind == api.KNull || b.Kind == api.KNull:
		return null(), api.OK
	case o == api.ONeg:
		n, e := bigOf(api.OSub, 0, a.N)
		return num(n), e
	case o >= api.OLt && o <= api.OGe && a.Kind == api.KInt:
		return compare(o, a.N < b.N, a.N == b.N), api.OK
	case o >= api.OLt && o <= api.OGe:
		return compare(o, a.S < b.S, a.S == b.S), api.OK
	case a.Kind == api.KText && len(a.S+b.S) > mostText:
		return null(), api.ErrBig
	case a.Kind == api.KText:
		return txt(a.S + b.S), api.OK
	}
	n, e := bigOf(o, a.N, b.N)
	return num(n), e
}

// value tells a right expression's value, by a right row.
func (m model) value(x api.Expr) (api.Value, api.Errno) {
	switch x.Op {
	case api.OVal:
		return x.V, api.OK
	case api.OName:
		for i, c := range m.cols {
			if c.Name == x.S {
				return m.row[i], api.OK
			}
		}
		return null(), api.ErrName
	}
	var l []api.Value
	letters := ""
	for _, y := range x.L {
		v, e := m.value(y)
		if e != api.OK {
			return null(), e
		}
		l = append(l, v)
		letters += letter(v)
		if x.Op == api.OIf {
			break
		}
	}
	switch {
	case !strings.Contains(m.allowed[x.Op], " "+letters+" "):
		return null(), api.ErrType
	case x.Op == api.OIf && letters == "T":
		return m.value(x.L[1])
	case x.Op == api.OIf:
		return m.value(x.L[2])
	}
	v, e := m.made(x.Op, l)
	if e != api.OK {
		v = null()
	}
	return v, e
}

// columns tells columns of each kind: some have numbers, texts and truths in rows, and n, o and m null.
func columns() []api.Column {
	return []api.Column{
		{Name: "i", Kind: api.KInt}, {Name: "t", Kind: api.KText}, {Name: "b", Kind: api.KBool}, {Name: "n", Kind: api.KInt}, {Name: "o", Kind: api.KText}, {Name: "m", Kind: api.KBool},
		{Name: "j", Kind: api.KInt}, {Name: "most", Kind: api.KInt}, {Name: "least", Kind: api.KInt}, {Name: "u", Kind: api.KText}, {Name: "c", Kind: api.KBool},
	}
}

// row tells values of columns.
func row() []api.Value {
	return []api.Value{num(7), txt("abc"), truth(1), {}, {}, {}, num(-2), num(math.MaxInt), num(math.MinInt), txt(strings.Repeat("u", 25)), truth(0)}
}

// leaves tells values and names of all kinds, and two names that columns has not.
func leaves() []api.Expr {
	l := []api.Expr{name("q"), name("I")}
	for _, c := range columns() {
		l = append(l, name(c.Name))
	}
	for _, v := range []api.Value{null(), num(0), num(1), num(2), num(7), num(math.MaxInt), txt(""), txt("abc"), txt("abd"), txt(strings.Repeat("~", mostText)), truth(0), truth(1)} {
		l = append(l, val(v))
	}
	return l
}

// of tells expressions whose values are of each kind, those of each error, and such that stand a little deeper.
func of() []api.Expr {
	i, t, b, q, zero := name("i"), name("t"), name("b"), name("q"), op(api.ODiv, name("i"), val(num(0)))
	over, great := op(api.OAdd, name("most"), val(num(1))), op(api.OAdd, name("u"), name("u"))
	return []api.Expr{
		val(null()), val(num(3)), val(txt("x")), val(truth(0)), i, t, b, op(api.ONeg, i), op(api.ONeg, name("n")), op(api.OAdd, t, val(txt("z"))), op(api.OLt, i, name("j")), op(api.OEq, i, name("n")),
		op(api.OIf, b, i, q), op(api.OIf, name("m"), zero, t), op(api.OIf, name("c"), over, b), op(api.OIf, i, t, b), op(api.OAnd, name("m"), b), op(api.OOr, name("m"), b),
		q, zero, over, great, op(api.ONeg, t), op(api.ONeg, name("least")), op(api.OMul, name("most"), name("j")), op(api.OAnd, val(truth(0)), q),
	}
}

// each goes through all ops of some parts, or through some at random, where there are more than most.
func each(parts []api.Expr, most int, do func(api.Expr)) {
	r := rand.New(rand.NewSource(16))
	for _, o := range ops() {
		all := 1
		for range count(o) {
			all *= len(parts)
		}
		for k := range min(all, most) {
			if all > most {
				k = r.Intn(all)
			}
			var l []api.Expr
			for range count(o) {
				l = append(l, parts[k%len(parts)])
				k /= len(parts)
			}
			do(op(o, l...))
		}
	}
}

// grow tells an expression of depth most at most.
func grow(r *rand.Rand, l []api.Expr, most int) api.Expr {
	if most == 1 || r.Intn(5) == 0 {
		return l[r.Intn(len(l))]
	}
	o := ops()[r.Intn(len(ops()))]
	var parts []api.Expr
	for range count(o) {
		parts = append(parts, grow(r, l, most-1))
	}
	return op(o, parts...)
}

// own tells an expression of depth 1 that has a kind, or is null.
func own(r *rand.Rand, kind api.Kind) api.Expr {
	l := map[api.Kind][]api.Expr{
		api.KNull: {val(null())},
		api.KInt:  {name("i"), name("j"), name("n"), name("most"), name("least"), val(num(0)), val(num(1)), val(num(7)), val(num(math.MaxInt))},
		api.KText: {name("t"), name("u"), name("o"), val(txt("x")), val(txt(""))},
		api.KBool: {name("b"), name("c"), name("m"), val(truth(0)), val(truth(1))},
	}[kind]
	return l[r.Intn(len(l))]
}

// growKind tells an expression of depth most at most that has a kind, or is null: so parts go together however deep they are.
func growKind(r *rand.Rand, kind api.Kind, most int) api.Expr {
	part := func(kind api.Kind) api.Expr { return growKind(r, kind, most-1) }
	choice := r.Intn(10)
	switch {
	case choice == 0:
		return val(null())
	case most == 1:
		return own(r, kind)
	case choice < 3 || kind == api.KNull:
		return op(api.OIf, part(api.KBool), part(kind), part(kind))
	case kind == api.KText:
		return op(api.OAdd, part(kind), part(kind))
	case kind == api.KInt && choice == 3:
		return op(api.ONeg, part(kind))
	case kind == api.KInt:
		return op(api.OAdd+api.Op(r.Intn(4)), part(kind), part(kind))
	case choice < 6:
		return op(api.OAnd+api.Op(r.Intn(2)), part(kind), part(kind))
	case choice == 6:
		return op(api.OEq+api.Op(r.Intn(2)), part(kind), part(kind))
	}
	of := []api.Kind{api.KInt, api.KText, api.KNull}[r.Intn(3)]
	return op(api.OEq+api.Op(r.Intn(6)), part(of), part(of))
}

// many tells expressions with values of all kinds, and with all errors.
func many() []api.Expr {
	l := slices.Concat(leaves(), of())
	each(leaves(), 5000, func(x api.Expr) { l = append(l, x) })
	each(of(), 8000, func(x api.Expr) { l = append(l, x) })
	r := rand.New(rand.NewSource(1))
	for range 15000 {
		l = append(l, grow(r, leaves(), 1+r.Intn(4)))
		l = append(l, growKind(r, api.Kind(r.Intn(4)), 1+r.Intn(6)))
	}
	return l
}

// shown tells an expression's text, of one that has none its error: all of a very deep one would be too much to tell.
func shown(x api.Expr) string {
	s, e := syntax.Text(x)
	if e != api.OK {
		return fmt.Sprint("an expression without a text: error ", int(e))
	}
	return s
}

// asked holds an answer of Eval against what is wanted. Whatever is told is a right value.
func asked(t *testing.T, x api.Expr, l []api.Column, row []api.Value, want api.Value, e api.Errno) {
	t.Helper()
	got, f := eval.Eval(x, l, row)
	if got != want || f != e {
		t.Fatalf("Eval(%q, %d columns, %d values): %v, %d, not %v, %d", shown(x), len(l), len(row), got, int(f), want, int(e))
	}
	if value.Check(got) != api.OK {
		t.Fatalf("Eval(%q): %v is no value", shown(x), got)
	}
}

// parsed tells the expression that a text is.
func parsed(t *testing.T, s string) api.Expr {
	t.Helper()
	x, place, e := syntax.Parse(s)
	if e != api.OK {
		t.Fatalf("Parse(%q): %d, %d", s, place, int(e))
	}
	return x
}

// Example 1 of the chapter.
func TestExample(t *testing.T) {
	l, row := []api.Column{{Name: "a", Kind: api.KInt}}, []api.Value{num(7)}
	asked(t, parsed(t, "a / -2"), l, row, num(-3), api.OK)
	asked(t, parsed(t, "null and false"), l, row, truth(0), api.OK)
	asked(t, parsed(t, "if null then 1 else 2"), l, row, num(2), api.OK)
	asked(t, parsed(t, "9223372036854775807 + 1"), l, row, null(), api.ErrOver)
}

// numbers tells numbers about all edges of what can be reckoned, rising and falling.
func numbers() []int {
	l := []int{0, 7, 10, 1000, math.MaxInt / 3, math.MaxInt / 7, 3037000499, 3037000500, 4294967295, 6074000999, 1<<62 - 1, 1<<62 + 1}
	for k := range 63 {
		l = append(l, 1<<k, 1<<k-1)
	}
	l = append(l, math.MaxInt, math.MaxInt-1, math.MaxInt/2+1, math.MinInt, math.MinInt+1, math.MinInt+2)
	for _, n := range l {
		if n != math.MinInt {
			l = append(l, -n)
		}
	}
	return l
}

// outcome is an op of two numbers, and the error that it told.
type outcome struct {
	op api.Op
	e  api.Errno
}

// calls tells the call of each op of two numbers.
func calls() map[api.Op]func(a, b int) (int, api.Errno) {
	return map[api.Op]func(a, b int) (int, api.Errno){api.OAdd: eval.Add, api.OSub: eval.Sub, api.OMul: eval.Mul, api.ODiv: eval.Div}
}

// P16.1: sums, differences, products and quotients, as far as 64 bits go.
func TestReckon(t *testing.T) {
	has := map[outcome]int{}
	reckons := func(a, b int) {
		for o, call := range calls() {
			want, e := bigOf(o, a, b)
			if n, f := call(a, b); n != want || f != e {
				t.Fatalf("op %d of %d and %d: %d, %d, not %d, %d", int(o), a, b, n, int(f), want, int(e))
			}
			has[outcome{o, e}]++
		}
	}
	for _, a := range numbers() {
		for _, b := range numbers() {
			reckons(a, b)
		}
	}
	r := rand.New(rand.NewSource(2))
	for range 100000 {
		// Numbers of all lengths, so that products are about 64 bits long.
		reckons(int(r.Uint64())>>r.Intn(64), int(r.Uint64())>>r.Intn(64))
	}
	least := map[outcome]int{{api.ODiv, api.ErrOver}: 1, {api.ODiv, api.ErrZero}: 200}
	for o := range calls() {
		for _, e := range []api.Errno{api.OK, api.ErrOver} {
			if has[outcome{o, e}] < 1000 && least[outcome{o, e}] == 0 {
				t.Error("too few of a kind", has)
			}
		}
	}
	for o, n := range least {
		if has[o] < n {
			t.Error("too few of a kind", has)
		}
	}
}

// P16.1: the edges of each call, told one by one.
func TestReckonEdges(t *testing.T) {
	for _, c := range []struct {
		call       func(a, b int) (int, api.Errno)
		a, b, want int
		e          api.Errno
	}{
		{eval.Add, math.MaxInt, 0, math.MaxInt, api.OK}, {eval.Add, math.MaxInt, 1, 0, api.ErrOver}, {eval.Add, 1, math.MaxInt, 0, api.ErrOver}, {eval.Add, math.MinInt, -1, 0, api.ErrOver}, {eval.Add, math.MinInt, math.MinInt, 0, api.ErrOver}, {eval.Add, math.MaxInt, math.MinInt, -1, api.OK},
		{eval.Sub, math.MinInt, 0, math.MinInt, api.OK}, {eval.Sub, math.MinInt, 1, 0, api.ErrOver}, {eval.Sub, 0, math.MinInt, 0, api.ErrOver}, {eval.Sub, -1, math.MinInt, math.MaxInt, api.OK}, {eval.Sub, math.MinInt, math.MinInt, 0, api.OK}, {eval.Sub, math.MaxInt, -1, 0, api.ErrOver},
		{eval.Mul, math.MinInt, 1, math.MinInt, api.OK}, {eval.Mul, 1, math.MinInt, math.MinInt, api.OK}, {eval.Mul, math.MinInt, -1, 0, api.ErrOver}, {eval.Mul, -1, math.MinInt, 0, api.ErrOver}, {eval.Mul, math.MinInt, 0, 0, api.OK}, {eval.Mul, 0, math.MinInt, 0, api.OK}, {eval.Mul, 1 << 32, 1 << 32, 0, api.ErrOver}, {eval.Mul, 1 << 32, -1 << 31, math.MinInt, api.OK}, {eval.Mul, 1 << 32, 1 << 31, 0, api.ErrOver},
		{eval.Div, 7, 2, 3, api.OK}, {eval.Div, -7, 2, -3, api.OK}, {eval.Div, 7, -2, -3, api.OK}, {eval.Div, -7, -2, 3, api.OK}, {eval.Div, 1, 2, 0, api.OK}, {eval.Div, -1, 2, 0, api.OK}, {eval.Div, 0, 0, 0, api.ErrZero}, {eval.Div, math.MinInt, 0, 0, api.ErrZero}, {eval.Div, math.MinInt, -1, 0, api.ErrOver}, {eval.Div, math.MinInt, 1, math.MinInt, api.OK}, {eval.Div, math.MaxInt, -1, -math.MaxInt, api.OK}, {eval.Div, math.MinInt, math.MinInt, 1, api.OK}, {eval.Div, math.MaxInt, math.MinInt, 0, api.OK},
	} {
		if n, e := c.call(c.a, c.b); n != c.want || e != c.e {
			t.Errorf("of %d and %d: %d, %d, not %d, %d", c.a, c.b, n, int(e), c.want, int(c.e))
		}
	}
}

// P16.2: texts, and their values.
func TestEval(t *testing.T) {
	for s, want := range map[string]string{
		"1": "1", `"x"`: `"x"`, "true": "true", "null": "null", "i": "7", "t": `"abc"`, "b": "true", "n": "null", "o": "null", "m": "null", "least": "-9223372036854775808",
		"-i": "-7", "--i": "7", "-n": "null", "-null": "null", "-most": "-9223372036854775807", "-0": "0", "i + j": "5", "i - j": "9", "i * j": "-14", "i / j": "-3", "-i / 2": "-3", "-i / j": "3", "1 - 2 - 3": "-4", "2 - (3 - 4)": "3", "7 / 2 * 2": "6", "least + most": "-1", "least / 1": "-9223372036854775808",
		"i + n": "null", "n - i": "null", "n * 0": "null", "0 * n": "null", "n / 0": "null", "0 / n": "null", "null / 0": "null", "null + null": "null", "null - null": "null", `null + "x"`: "null", `"x" + o`: "null", "n + o": "null", "n + t": "null",
		`t + "d"`: `"abcd"`, `"" + ""`: `""`, `"a" + "b" + "c"`: `"abc"`, `"\"" + "\\"`: `"\"\\"`, "t + t": `"abcabc"`, `u + "123456789012345"`: `"` + strings.Repeat("u", 25) + `123456789012345"`,
		"i = 7": "true", "i = 8": "false", "i != 7": "false", "i = null": "false", "null = null": "true", "n = o": "true", "n != m": "false", "n != null": "false", "t != null": "true", `t = "abc"`: "true", `t = "ab"`: "false", `t != "Abc"`: "true", "b = true": "true", "b = false": "false", "b != c": "true", "null = false": "false", "0 = -0": "true",
		"i < 8": "true", "i < 7": "false", "i <= 7": "true", "i <= 6": "false", "i > 6": "true", "i > 7": "false", "i >= 7": "true", "i >= 8": "false", "least < most": "true", "most < least": "false", "least - 0 <= j": "true", `t < "abd"`: "true", `t < "abc"`: "false", `t <= "abc"`: "true", `t > "ab"`: "true", `t > "abca"`: "false", `t >= ""`: "true", `"B" < "a"`: "true", `"10" < "9"`: "true", "i < n": "null", "null >= i": "null", "o > t": "null", "null < null": "null", "n <= o": "null",
		"b and b": "true", "b and c": "false", "c and b": "false", "b and m": "null", "m and b": "null", "m and c": "false", "c and null": "false", "null and null": "null", "b or c": "true", "c or b": "true", "c or c": "false", "c or m": "null", "m or c": "null", "m or b": "true", "b or null": "true", "null or null": "null", "null and false": "false", "true or false and false": "true",
		"if b then 1 else 2": "1", "if c then 1 else 2": "2", "if m then 1 else 2": "2", "if null then 1 else null": "null", `if i < 8 then "x" else 1`: `"x"`, "if b then n else 1": "null", "(if c then i else t) + t": `"abcabc"`, "if b then if c then 1 else 2 else 3": "2", "if if b then c else b then 1 else 2": "2", "1 + (if b then 2 else 3)": "3",
		// What is not asked tells no error.
		"if b then 1 else 1 / 0": "1", "if c then q else 1": "1", "if m then most + 1 else 1": "1", "if b then 1 else q": "1", "if c then -t else 1": "1", "if c then u + u else u": `"` + strings.Repeat("u", 25) + `"`, "if b then if c then q else 1 else 1 / 0": "1",
	} {
		v, e := eval.Eval(parsed(t, s), columns(), row())
		if got, _ := value.Text(v); e != api.OK || got != want {
			t.Errorf("Eval(%q): %s, %d, not %s", s, got, int(e), want)
		}
	}
}

// P16.2: texts, and their errors; of several the first one from left to right, that of parts ahead of what they are parts of.
func TestEvalErrors(t *testing.T) {
	for s, want := range map[string]api.Errno{
		"q": api.ErrName, "-q": api.ErrName, "i + q": api.ErrName, "I": api.ErrName, "ii": api.ErrName, "false and q": api.ErrName, "true or q": api.ErrName, "null + q": api.ErrName, "q = q": api.ErrName, "if q then 1 else 2": api.ErrName, "if b then q else 1": api.ErrName, "if c then 1 else q": api.ErrName,
		"-t": api.ErrType, "-b": api.ErrType, "i + t": api.ErrType, "t + i": api.ErrType, "b + null": api.ErrType, "null + b": api.ErrType, "b + b": api.ErrType, "t - t": api.ErrType, "null - t": api.ErrType, "t * null": api.ErrType, "b / i": api.ErrType, "n - b": api.ErrType, "i = t": api.ErrType, "b != i": api.ErrType, "t = b": api.ErrType, "b < c": api.ErrType, "b < null": api.ErrType, "n >= b": api.ErrType, "i <= t": api.ErrType, "t > 7": api.ErrType,
		"i and b": api.ErrType, "b and i": api.ErrType, "c and i": api.ErrType, "b or i": api.ErrType, "t or b": api.ErrType, "null and t": api.ErrType, "i or null": api.ErrType, "if i then 1 else 2": api.ErrType, "if t then 1 else 2": api.ErrType, "if 0 then 1 else 2": api.ErrType, "(if b then i else t) + t": api.ErrType,
		"u + u": api.ErrBig, `u + "1234567890123456"`: api.ErrBig, `"" + u + u`: api.ErrBig, "if b then u + u else u": api.ErrBig, `null + (u + u)`: api.ErrBig, "(u + u) + null": api.ErrBig, "u + u = null": api.ErrBig,
		"most + 1": api.ErrOver, "1 + most": api.ErrOver, "least - 1": api.ErrOver, "least + least": api.ErrOver, "most * 2": api.ErrOver, "j * most": api.ErrOver, "most - j": api.ErrOver, "-least": api.ErrOver, "least / -1": api.ErrOver, "least * -1": api.ErrOver, "-1 * least": api.ErrOver, "0 - least": api.ErrOver, "most + 1 - 1": api.ErrOver, "n + (most + 1)": api.ErrOver, "most + 1 + n": api.ErrOver,
		"1 / 0": api.ErrZero, "0 / 0": api.ErrZero, "least / 0": api.ErrZero, "i / (7 - i)": api.ErrZero, "false and 1 / 0 = 1": api.ErrZero, "n + 1 / 0": api.ErrZero,
		// The first one of several.
		"1 / 0 + q": api.ErrZero, "q + 1 / 0": api.ErrName, "-t + q": api.ErrType, "q - -t": api.ErrName, "most + 1 < 1 / 0": api.ErrOver, "1 / 0 < most + 1": api.ErrZero, "u + u = 1 / 0": api.ErrBig, "i = 1 / 0": api.ErrZero, "t + q": api.ErrName, "t * q": api.ErrName, "t * (1 / 0)": api.ErrZero, "i + t + q": api.ErrType, "i + (t + q)": api.ErrName,
		"if q then 1 / 0 else 1": api.ErrName, "if 1 / 0 = 1 then q else q": api.ErrZero, "if b then 1 / 0 else q": api.ErrZero, "if m then q else -t": api.ErrType, "if i then q else q": api.ErrType, "if t then 1 / 0 else 1 / 0": api.ErrType, "if i then 1 else most + 1": api.ErrType, "(if c then q else u + u) + 1 / 0": api.ErrBig,
	} {
		asked(t, parsed(t, s), columns(), row(), null(), want)
	}
}

// P16.2: the chapter's table, row by row: each op of values of all kinds, which stand there, or are names', or ops'.
func TestTable(t *testing.T) {
	values := []api.Value{null(), num(0), num(1), num(-1), num(7), num(math.MaxInt), num(math.MinInt), txt(""), txt("a"), txt("b"), txt(strings.Repeat("x", mostText-1)), txt(strings.Repeat("x", mostText)), truth(0), truth(1)}
	var cols []api.Column
	for i := range values {
		cols = append(cols, api.Column{Name: fmt.Sprint("v", i), Kind: api.KInt})
	}
	m := modelOf(cols, values)
	told := map[string]int{}
	for _, o := range ops() {
		all := 1
		for range count(o) {
			all *= len(values)
		}
		for k := range all {
			var names, mixed []api.Expr
			for j := range count(o) {
				at := k % len(values)
				k /= len(values)
				names, mixed = append(names, name(cols[at].Name)), append(mixed, op(api.OIf, val(truth(1)), name(cols[at].Name), name("q")))
				if v := values[at]; j == 0 && v.N >= 0 {
					mixed[0] = val(v)
				}
			}
			want, e := m.value(op(o, names...))
			asked(t, op(o, names...), cols, values, want, e)
			asked(t, op(o, mixed...), cols, values, want, e)
			told[fmt.Sprint(o, " ", letter(want), " ", e)]++
		}
	}
	for _, o := range ops() {
		for _, l := range strings.Fields("n i t F T") {
			could := map[api.Op]string{api.OAdd: "nit", api.OIf: "nitFT", api.OEq: "FT", api.ONe: "FT"}[o]
			switch {
			case could != "":
			case o <= api.ODiv:
				could = "ni"
			default:
				could = "nFT"
			}
			if n := told[fmt.Sprint(o, " ", l, " ", api.OK)]; strings.Contains(could, l) != (n > 0) {
				t.Errorf("op %d tells %s %d times", int(o), l, n)
			}
		}
	}
}

// P16.2: expressions of all kinds, with values of all kinds and all errors, told as the chapter's words tell them.
func TestEvalMany(t *testing.T) {
	m := modelOf(columns(), row())
	told, refused := map[string]int{}, map[api.Errno]int{}
	for _, x := range many() {
		want, e := m.value(x)
		if refused[e]++; e == api.OK {
			told[letter(want)]++
		}
		asked(t, x, columns(), row(), want, e)
	}
	for _, n := range []int{told["n"], told["i"], told["t"], told["F"], told["T"], refused[api.ErrName], refused[api.ErrType], refused[api.ErrBig], refused[api.ErrOver], refused[api.ErrZero]} {
		if n < 500 {
			t.Error("too few expressions of a kind", told, refused)
		}
	}
}

// P16.2: a text has 40 bytes at most, however it is joined.
func TestBig(t *testing.T) {
	cols := []api.Column{{Name: "a", Kind: api.KText}, {Name: "b", Kind: api.KText}, {Name: "c", Kind: api.KText}}
	for i := range mostText + 1 {
		for j := range mostText + 1 {
			row := []api.Value{txt(strings.Repeat("a", i)), txt(strings.Repeat("\"", j)), txt("")}
			want, e := txt(row[0].S+row[1].S), api.OK
			if i+j > mostText {
				want, e = null(), api.ErrBig
			}
			asked(t, op(api.OAdd, name("a"), name("b")), cols, row, want, e)
			asked(t, op(api.OAdd, name("c"), op(api.OAdd, name("a"), name("b"))), cols, row, want, e)
			asked(t, op(api.OAdd, op(api.OAdd, name("a"), name("c")), name("b")), cols, row, want, e)
		}
	}
}

// wrongs tells expressions that are not right.
func wrongs() []api.Expr {
	i, one := name("i"), num(1)
	l := []api.Expr{
		{}, {L: []api.Expr{i}}, {Op: 17, L: []api.Expr{i, i}}, {Op: -1}, {Op: math.MaxInt}, op(api.ONeg), op(api.ONeg, i, i), op(api.OAdd), op(api.OAdd, i), op(api.OAdd, i, i, i), op(api.OIf), op(api.OIf, name("b")), op(api.OIf, name("b"), i), op(api.OIf, name("b"), i, i, i), op(api.OEq, i), op(api.OLt), op(api.OAnd, name("b")),
		{Op: api.OVal, S: "x"}, {Op: api.OVal, L: []api.Expr{i}}, {Op: api.OName, S: "i", L: []api.Expr{i}}, {Op: api.OName, S: "i", V: one}, {Op: api.OAdd, S: "x", L: []api.Expr{i, i}}, {Op: api.ONeg, V: one, L: []api.Expr{i}},
		name(""), name("if"), name("a b"), name(strings.Repeat("q", 17)),
	}
	for _, v := range append(wrongValues(), num(-1), num(math.MinInt)) {
		l = append(l, val(v))
	}
	return l
}

// wrongValues tells what is no value.
func wrongValues() []api.Value {
	return []api.Value{
		{N: 1}, {N: -1}, {S: "x"}, {Kind: api.KInt, S: "x"}, {Kind: api.KInt, N: 1, S: "x"}, {Kind: api.KText, N: 1}, txt(strings.Repeat("x", mostText+1)), txt("\x1f"), txt("\x7f"), txt("\u00e9"),
		truth(2), truth(-1), {Kind: api.KBool, S: "x"}, {Kind: 4}, {Kind: -1}, {Kind: 1<<32 + 1}, {Kind: math.MaxInt}, {Kind: math.MinInt},
	}
}

// P16.2: what is not right has no value: ahead of all other errors, wherever it stands, also where it would not be asked.
func TestEvalWrong(t *testing.T) {
	i, q, bad, yes := name("i"), name("q"), op(api.ONeg, name("t")), val(truth(1))
	for _, x := range wrongs() {
		for _, y := range []api.Expr{x, op(api.ONeg, x), op(api.OAdd, i, x), op(api.OAdd, q, x), op(api.OAdd, bad, x), op(api.OAdd, x, q), op(api.OIf, yes, i, x), op(api.OIf, yes, x, i), op(api.OIf, val(null()), op(api.ONeg, x), i), op(api.OIf, x, i, i)} {
			asked(t, y, columns(), row(), null(), api.ErrArg)
			asked(t, y, nil, nil, null(), api.ErrArg)
			asked(t, y, columns(), row()[1:], null(), api.ErrArg)
		}
	}
}

// P16.2: a row's values are all right, asked for or not.
func TestRowWrong(t *testing.T) {
	for at := range row() {
		for _, v := range wrongValues() {
			values := row()
			values[at] = v
			for _, x := range []api.Expr{val(num(1)), name(columns()[at].Name), name("i"), name("q"), op(api.ODiv, val(num(1)), val(num(0))), op(api.OIf, val(truth(1)), name("i"), name(columns()[at].Name))} {
				asked(t, x, columns(), values, null(), api.ErrArg)
			}
		}
	}
}

// P16.2: there are as many columns as values.
func TestCount(t *testing.T) {
	for columnCount := range len(columns()) + 1 {
		for valueCount := range len(row()) + 1 {
			want, e := num(3), api.OK
			if columnCount != valueCount {
				want, e = null(), api.ErrArg
			}
			asked(t, val(num(3)), columns()[:columnCount], row()[:valueCount], want, e)
			if e == api.OK {
				e = api.ErrName
			}
			asked(t, name("q"), columns()[:columnCount], row()[:valueCount], null(), e)
		}
	}
	asked(t, val(num(3)), nil, nil, num(3), api.OK)
	asked(t, val(num(3)), []api.Column{}, nil, num(3), api.OK)
	asked(t, val(num(3)), nil, []api.Value{}, num(3), api.OK)
	// What stands behind the list's end is no column.
	asked(t, name("t"), columns()[:1], row()[:1], null(), api.ErrName)
}

// P16.2: of several columns of one name the first one counts, wherever they stand.
func TestTwice(t *testing.T) {
	for ahead := range 4 {
		for between := range 10 {
			cols, values := slices.Clone(columns()[:ahead]), slices.Clone(row()[:ahead])
			for _, v := range []api.Value{txt("first"), num(2), {}} {
				cols, values = append(cols, api.Column{Name: "x", Kind: api.KInt}), append(values, v)
				for k := range between {
					cols, values = append(cols, api.Column{Name: fmt.Sprint("y", k), Kind: api.KInt}), append(values, num(k))
				}
			}
			asked(t, name("x"), cols, values, txt("first"), api.OK)
			asked(t, op(api.OAdd, name("x"), name("x")), cols, values, txt("firstfirst"), api.OK)
			values[ahead] = null()
			asked(t, name("x"), cols, values, null(), api.OK)
		}
	}
}

// P16.2: of columns their names alone are asked: neither their kinds, nor their orders, nor whether they are right.
func TestColumnsOdd(t *testing.T) {
	m := modelOf(columns(), row())
	r := rand.New(rand.NewSource(6))
	for _, x := range many() {
		l := columns()
		for i := range l {
			l[i].Kind = []api.Kind{api.KNull, api.KInt, api.KText, api.KBool, 4, -1, math.MaxInt, math.MinInt}[r.Intn(8)]
			l[i].Order = [][]api.Value{nil, {}, {num(1), num(1)}, {{Kind: 9, N: -1}}}[r.Intn(4)]
		}
		want, e := m.value(x)
		asked(t, x, l, row(), want, e)
	}
	odd := []api.Column{{Name: "if"}, {}, {Name: "a b"}, {Name: "x"}, {Name: strings.Repeat("q", 1000)}}
	asked(t, name("x"), odd, row()[:5], row()[3], api.OK)
	asked(t, val(num(1)), odd, row()[:5], num(1), api.OK)
	asked(t, name("if"), odd, row()[:5], null(), api.ErrArg)
	asked(t, name(""), odd, row()[:5], null(), api.ErrArg)
}

// fitting tells a row of columns' kinds, or null here and there.
func fitting(r *rand.Rand, l []api.Column) []api.Value {
	var values []api.Value
	for _, c := range l {
		choices := map[api.Kind][]api.Value{
			api.KInt:  {null(), num(0), num(1), num(-1), num(r.Int()), num(-r.Intn(9)), num(math.MaxInt), num(math.MinInt)},
			api.KText: {null(), txt(""), txt("abc"), txt("abd"), txt(strings.Repeat("a", r.Intn(mostText+1)))},
			api.KBool: {null(), truth(0), truth(1)},
		}[c.Kind]
		values = append(values, choices[r.Intn(len(choices))])
	}
	return values
}

// P16.3: an expression whose kind is told tells a value of that kind, or null, or an error of numbers or lengths, whatever stands in a row of the columns' kinds.
func TestTyped(t *testing.T) {
	r := rand.New(rand.NewSource(3))
	told, refused := map[api.Kind]int{}, map[api.Errno]int{}
	for _, x := range many() {
		kind, e := typing.Kind(x, columns())
		if e != api.OK {
			continue
		}
		for range 3 {
			v, e := eval.Eval(x, columns(), fitting(r, columns()))
			switch e {
			case api.OK:
				told[v.Kind]++
				if v.Kind != api.KNull && v.Kind != kind {
					t.Fatalf("%s, of kind %d, tells %v", shown(x), int(kind), v)
				}
			case api.ErrOver, api.ErrZero, api.ErrBig:
			default:
				t.Fatalf("%s, of kind %d: %d", shown(x), int(kind), int(e))
			}
			refused[e]++
		}
	}
	for _, n := range []int{told[api.KNull], told[api.KInt], told[api.KText], told[api.KBool], refused[api.ErrOver], refused[api.ErrZero], refused[api.ErrBig]} {
		if n < 500 {
			t.Error("too few expressions of a kind", told, refused)
		}
	}
}

// P16.4: a value is the same with whatever columns of other names, however they stand, with whatever values.
func TestNames(t *testing.T) {
	r := rand.New(rand.NewSource(4))
	others := append(wideValues(), row()...)
	for _, x := range many() {
		want, e := eval.Eval(x, columns(), row())
		var cols []api.Column
		var values []api.Value
		for i, c := range columns() {
			if slices.Contains(syntax.Names(x), c.Name) {
				cols, values = append(cols, c), append(values, row()[i])
			}
		}
		asked(t, x, cols, values, want, e)
		slices.Reverse(cols)
		slices.Reverse(values)
		asked(t, x, cols, values, want, e)
		for range 1 + r.Intn(6) {
			at := r.Intn(len(cols) + 1)
			cols = slices.Insert(cols, at, api.Column{Name: fmt.Sprint("z", r.Intn(4)), Kind: api.Kind(r.Intn(6) - 1)})
			values = slices.Insert(values, at, others[r.Intn(len(others))])
		}
		asked(t, x, cols, values, want, e)
	}
}

// P16.4: written and parsed again an expression tells the same.
func TestWritten(t *testing.T) {
	written, longest := 0, 0
	for _, x := range many() {
		s, e := syntax.Text(x)
		if e != api.OK {
			continue
		}
		written, longest = written+1, max(longest, len(s))
		want, e := eval.Eval(x, columns(), row())
		asked(t, parsed(t, s), columns(), row(), want, e)
	}
	if written < 50000 || longest < 150 {
		t.Error("too few expressions were written", written, longest)
	}
}

// wideValues tells numbers and texts, many of which are next to one another.
func wideValues() []api.Value {
	var l []api.Value
	for _, n := range numbers() {
		l = append(l, num(n))
	}
	for _, s := range []string{"", " ", "  ", "!", "A", "B", "a", "aa", "ab", "b", "~", "1", "10", "2", "-1", "true", "null", strings.Repeat("~", mostText), strings.Repeat("~", mostText-1), strings.Repeat("a", mostText)} {
		l = append(l, txt(s))
	}
	return l
}

// P16.5: of two numbers or two texts just one of <, = and > is true, and the others say no more, and no less, than these.
func TestLaws(t *testing.T) {
	cols := []api.Column{{Name: "x", Kind: api.KInt}, {Name: "y", Kind: api.KInt}}
	for _, a := range wideValues() {
		for _, b := range wideValues() {
			if a.Kind != b.Kind {
				continue
			}
			says := map[api.Op]bool{}
			for o := api.OEq; o <= api.OGe; o++ {
				v, e := eval.Eval(op(o, name("x"), name("y")), cols, []api.Value{a, b})
				if e != api.OK || v.Kind != api.KBool {
					t.Fatalf("op %d of %v and %v: %v, %d", int(o), a, b, v, int(e))
				}
				says[o] = v == truth(1)
			}
			order := value.Compare(a, b)
			if says[api.OLt] != (order < 0) || says[api.OEq] != (order == 0) || says[api.OGt] != (order > 0) {
				t.Fatalf("%v and %v stand %d: %v", a, b, order, says)
			}
			if says[api.OLe] == says[api.OGt] || says[api.OGe] == says[api.OLt] || says[api.ONe] == says[api.OEq] {
				t.Fatalf("%v and %v: %v", a, b, says)
			}
		}
	}
}

// copied tells an expression that shares no memory with another one.
func copied(x api.Expr) api.Expr {
	var l []api.Expr
	for _, y := range x.L {
		l = append(l, copied(y))
	}
	x.L = l
	return x
}

// Eval leaves what it is given as it was, what stands behind lists' ends, too, and keeps nothing of it.
func TestOwn(t *testing.T) {
	x := parsed(t, `if b and i < 8 then t + "x" else "y"`)
	roomL, room := append(columns(), api.Column{Name: "behind", Kind: api.KInt}), append(row(), num(9))
	l, values := roomL[:len(columns())], room[:len(row())]
	wantX, wantL, wantRoom := copied(x), slices.Clone(roomL), slices.Clone(room)
	for range 3 {
		asked(t, x, l, values, txt("abcx"), api.OK)
		if !reflect.DeepEqual(x, wantX) || !reflect.DeepEqual(roomL, wantL) || !reflect.DeepEqual(room, wantRoom) {
			t.Fatal("an argument was changed")
		}
	}
	// What a row, columns or an expression were at an earlier call is not asked any more.
	values[0] = num(8)
	asked(t, x, l, values, txt("y"), api.OK)
	l[0].Name = "q"
	asked(t, x, l, values, null(), api.ErrName)
	l[0].Name = "i"
	x.L[2] = val(num(1))
	asked(t, x, l, values, num(1), api.OK)
}

// P16.2: all calls end, and tell values, however deep and wide expressions are, and however many columns there are.
func TestMuch(t *testing.T) {
	const n = 300000
	cols, values := columns(), row()
	left, right, deep, tests, branch, fails := name("i"), name("i"), name("i"), name("b"), name("t"), op(api.ODiv, name("i"), val(num(0)))
	for range n {
		left, right, deep = op(api.OAdd, left, val(num(1))), op(api.OSub, val(num(1)), right), op(api.ONeg, deep)
		tests, branch, fails = op(api.OIf, tests, name("b"), name("q")), op(api.OIf, name("m"), name("q"), branch), op(api.OAdd, fails, name("q"))
	}
	asked(t, left, cols, values, num(n+7), api.OK)
	asked(t, right, cols, values, num(7), api.OK)
	asked(t, deep, cols, values, num(7), api.OK)
	asked(t, tests, cols, values, truth(1), api.OK)
	asked(t, branch, cols, values, txt("abc"), api.OK)
	asked(t, fails, cols, values, null(), api.ErrZero)
	asked(t, op(api.OAdd, deep, branch), cols, values, null(), api.ErrType)
	asked(t, op(api.OAdd, deep, op(api.ONeg, api.Expr{})), cols, values, null(), api.ErrArg)
	var wideCols []api.Column
	var wide []api.Value
	for k := range n {
		wideCols, wide = append(wideCols, api.Column{Name: fmt.Sprint("x", k), Kind: api.KInt}), append(wide, num(k))
	}
	x, sum := val(num(0)), 0
	for k := 0; k < n; k += 3 {
		x, sum = op(api.OAdd, x, name(fmt.Sprint("x", k))), sum+k
	}
	asked(t, x, wideCols, wide, num(sum), api.OK)
	asked(t, op(api.OAdd, x, name("y")), wideCols, wide, null(), api.ErrName)
	wide[n-1] = api.Value{N: 1}
	asked(t, x, wideCols, wide, null(), api.ErrArg)
}

// P16.2: an expression that holds itself has no value, also where that would not be asked; a list at several places is as any other.
func TestEndless(t *testing.T) {
	ring := make([]api.Expr, 2)
	ring[0], ring[1] = name("i"), op(api.OAdd, ring...)
	asked(t, op(api.OAdd, ring...), columns(), row(), null(), api.ErrArg)
	pick := make([]api.Expr, 3)
	pick[0], pick[1], pick[2] = val(truth(1)), name("i"), op(api.OIf, pick...)
	asked(t, op(api.OIf, pick...), columns(), row(), null(), api.ErrArg)
	pick[0] = val(null())
	asked(t, op(api.OIf, pick...), columns(), row(), null(), api.ErrArg)
	twice := []api.Expr{name("i"), val(num(6))}
	for range 10 {
		twice = []api.Expr{op(api.OAdd, twice...), op(api.OSub, twice...)}
	}
	// Two rounds double both: 7 and 6 become 13 and 1, and these 14 and 12.
	asked(t, op(api.OLt, twice...), columns(), row(), truth(0), api.OK)
	asked(t, twice[0], columns(), row(), num(7*32), api.OK)
	asked(t, twice[1], columns(), row(), num(6*32), api.OK)
}
