package cell_test

import (
	"fmt"
	"math"
	"math/rand"
	"reflect"
	"slices"
	"strings"
	"testing"

	"decretal/api"
	"decretal/cell"
	"decretal/eval"
	"decretal/lex"
	"decretal/syntax"
	"decretal/typing"
)

const (
	mostSource = 200 // bytes of a cell's text
	mostDeep   = 12  // how deep an expression may be
	mostTests  = 12  // tests of a cell
)

func num(n int) api.Value      { return api.Value{Kind: api.KInt, N: n} }
func txt(s string) api.Value   { return api.Value{Kind: api.KText, S: s} }
func truth(n int) api.Value    { return api.Value{Kind: api.KBool, N: n} }
func null() api.Value          { return api.Value{} }
func name(s string) api.Expr   { return api.Expr{Op: api.OName, S: s} }
func val(v api.Value) api.Expr { return api.Expr{Op: api.OVal, V: v} }

// op tells an op of parts.
func op(o api.Op, l ...api.Expr) api.Expr {
	return api.Expr{Op: o, L: l}
}

// minus tells an expression of a depth.
func minus(deep int) api.Expr {
	x := val(num(1))
	for range deep - 1 {
		x = op(api.ONeg, x)
	}
	return x
}

// is, as and between tell tests; of tells a cell of tests, and not one that is to have none that holds.
func is(x api.Expr) api.Test { return api.Test{Kind: api.XEq, A: x} }

func as(kind api.TestKind, x api.Expr) api.Test { return api.Test{Kind: kind, A: x} }

func between(a, b api.Expr) api.Test { return api.Test{Kind: api.XIn, A: a, B: b} }

func of(l ...api.Test) api.Cell { return api.Cell{Tests: l} }

func not(c api.Cell) api.Cell {
	c.Not = true
	return c
}

// compares tells the kinds of tests that have one expression and compare.
func compares() []api.TestKind {
	return []api.TestKind{api.XLt, api.XLe, api.XGt, api.XGe}
}

// exprOf tells the expression that a text is.
func exprOf(t *testing.T, s string) api.Expr {
	t.Helper()
	x, place, e := syntax.Parse(s)
	if e != api.OK {
		t.Fatalf("syntax.Parse(%q): %d, %d", s, place, int(e))
	}
	return x
}

// parsed tells the cell that a text is.
func parsed(t *testing.T, s string) api.Cell {
	t.Helper()
	c, place, e := cell.Parse(s)
	if e != api.OK || place != 0 {
		t.Fatalf("Parse(%q): %d, %d", s, place, int(e))
	}
	return c
}

// Example 1 of the chapter.
func TestExample(t *testing.T) {
	c := parsed(t, "not(<5,]a..9])")
	if s, e := cell.Text(c); s != "not(< 5, ]a..9])" || e != api.OK {
		t.Errorf("Text: %q, %d", s, int(e))
	}
	l, row := []api.Column{{Name: "a", Kind: api.KInt}}, []api.Value{num(5)}
	for v, want := range map[int]bool{5: true, 6: false} {
		if is, e := cell.Holds(c, num(v), l, row); is != want || e != api.OK {
			t.Errorf("Holds of %d: %t, %d", v, is, int(e))
		}
	}
}

// checked holds an answer of Check against what is wanted, and that of all calls that ask it ahead of all else.
func checked(t *testing.T, c api.Cell, want api.Errno) {
	t.Helper()
	if e := cell.Check(c); e != want {
		t.Fatalf("Check(%v): %d, not %d", c, int(e), int(want))
	}
	_, text := cell.Text(c)
	typed := cell.Typed(c, api.KInt, columns())
	_, holds := cell.Holds(c, num(1), columns(), row())
	for _, e := range []api.Errno{text, typed, holds} {
		if (e == api.ErrArg) != (want == api.ErrArg) {
			t.Fatalf("%v: %d, %d, %d", c, int(text), int(typed), int(holds))
		}
	}
}

// P17.1: cells that are right: any, and up to 12 tests of all kinds, with expressions as deep as they may be, and such that fail, or have no kind.
func TestCheck(t *testing.T) {
	checked(t, api.Cell{Any: true}, api.OK)
	checked(t, api.Cell{Any: true, Tests: []api.Test{}}, api.OK)
	for _, x := range append(pool(t), minus(mostDeep), exprOf(t, strings.Repeat("-", mostDeep-1)+"i")) {
		l := []api.Test{is(x), between(x, x), between(x, val(null())), between(name("i"), x)}
		for k := range 4 {
			l = append(l, api.Test{Kind: api.XIn, A: x, B: x, OutLo: k&1 != 0, OutHi: k&2 != 0})
		}
		for _, kind := range compares() {
			l = append(l, as(kind, x))
		}
		for n := 1; n <= mostTests; n++ {
			checked(t, of(l[:n]...), api.OK)
			checked(t, not(of(l[len(l)-n:]...)), api.OK)
		}
	}
	// An empty list is as none.
	checked(t, of(api.Test{Kind: api.XEq, A: api.Expr{Op: api.OName, S: "i", L: []api.Expr{}}, B: api.Expr{L: []api.Expr{}}}), api.OK)
}

// wrongExprs tells expressions that may not stand in a test.
func wrongExprs() []api.Expr {
	i := name("i")
	return []api.Expr{
		{}, {L: []api.Expr{i}}, {Op: -1}, {Op: 17, L: []api.Expr{i}}, op(api.ONeg), op(api.OAdd, i), op(api.OIf, i, i), op(api.OOr, i, i, i), op(api.ONeg, api.Expr{}), name(""), name("if"), name("a b"), {Op: api.OName, S: "i", V: num(1)}, {Op: api.OVal, S: "x"}, val(num(-1)), val(truth(2)), val(txt("\x7f")), val(api.Value{N: 1}),
		minus(mostDeep + 1), minus(1000), op(api.OAdd, i, minus(mostDeep)), op(api.OIf, i, i, minus(mostDeep)),
	}
}

// wrongTests tells tests that may not be.
func wrongTests() []api.Test {
	i := name("i")
	l := []api.Test{{}, {Kind: api.XIn}, {A: i}, {Kind: -1, A: i}, {Kind: 7, A: i}, {Kind: 7, A: i, B: i}, {Kind: 1<<32 + 1, A: i}, {Kind: math.MaxInt, A: i}, {Kind: math.MinInt, A: i}, between(i, api.Expr{}), between(api.Expr{}, i)}
	for _, kind := range append(compares(), api.XEq) {
		l = append(l, api.Test{Kind: kind, A: i, OutLo: true}, api.Test{Kind: kind, A: i, OutHi: true}, api.Test{Kind: kind, A: i, OutLo: true, OutHi: true})
		for _, b := range []api.Expr{i, val(null()), {Op: -1}, {S: "x"}, {V: num(0)}, {V: num(1)}, {V: txt("x")}, {V: api.Value{N: 1}}, {L: []api.Expr{i}}, {L: make([]api.Expr, 1)}} {
			l = append(l, api.Test{Kind: kind, A: i, B: b})
		}
		for _, x := range wrongExprs() {
			l = append(l, as(kind, x))
		}
	}
	for _, x := range wrongExprs() {
		l = append(l, between(x, i), between(i, x), between(x, x), api.Test{Kind: api.XIn, A: x, B: i, OutLo: true, OutHi: true})
	}
	return l
}

// P17.1: what is not right, wherever it stands, whatever stands beside it.
func TestCheckWrong(t *testing.T) {
	good := is(name("i"))
	for _, x := range wrongTests() {
		for _, n := range []int{1, 2, mostTests} {
			for at := range n {
				l := slices.Repeat([]api.Test{good}, n)
				l[at] = x
				checked(t, of(l...), api.ErrArg)
				checked(t, not(of(l...)), api.ErrArg)
			}
		}
	}
	for _, c := range []api.Cell{
		{}, {Tests: []api.Test{}}, {Not: true}, {Any: true, Not: true}, {Any: true, Tests: []api.Test{good}}, {Any: true, Not: true, Tests: []api.Test{good}}, {Any: true, Tests: []api.Test{{}}},
		of(slices.Repeat([]api.Test{good}, mostTests+1)...), not(of(slices.Repeat([]api.Test{good}, mostTests+1)...)), of(make([]api.Test, 1000)...),
	} {
		checked(t, c, api.ErrArg)
	}
}

// P17.1: names, each where it stands first, of A ahead of those of B, whether the cell is right or not.
func TestNames(t *testing.T) {
	for s, want := range map[string]string{
		"-": "", "1, \"a\", null": "", "a": "a", "a, a": "a", "b, a": "b a", "not(b, a, b)": "b a", "< a, > b, <= c, >= d": "a b c d", "[b..a]": "b a", "[a..a]": "a", "a + b, [c + b..d - a], e": "a b c d e", "(if c then b else a), a * d, [b..-e[": "c b a d e", "x, X, _x, x_": "x X _x x_",
	} {
		if l := cell.Names(parsed(t, s)); !slices.Equal(l, strings.Fields(want)) {
			t.Errorf("Names(%q): %v", s, l)
		}
	}
	a, b, odd := name("a"), name("b"), name("a b")
	for _, c := range []struct {
		of   api.Cell
		want []string
	}{
		{api.Cell{}, nil}, {api.Cell{Any: true, Not: true, Tests: []api.Test{is(b), is(a)}}, []string{"b", "a"}}, {of(api.Test{Kind: api.XEq, A: a, B: b}), []string{"a", "b"}}, {of(api.Test{B: b}, api.Test{A: a}), []string{"b", "a"}}, {of(api.Test{Kind: 9, A: odd, B: name("")}), []string{"a b", ""}},
		{of(is(op(99, b, op(api.OVal, a), odd))), []string{"b", "a", "a b"}}, {of(slices.Repeat([]api.Test{is(a)}, 100)...), []string{"a"}},
	} {
		if l := cell.Names(c.of); !slices.Equal(l, c.want) {
			t.Errorf("Names(%v): %q, not %q", c.of, l, c.want)
		}
	}
}

// P17.1: cells are the same only if nothing is unlike, whether they are right or not.
func TestSame(t *testing.T) {
	a, b := name("a"), name("b")
	var l []api.Cell
	for _, x := range []api.Test{{}, is(a), is(b), is(val(null())), is(val(num(0))), is(op(api.ONeg, a)), is(op(api.OAdd, a, b)), is(op(api.OAdd, b, a)), as(api.XLt, a), as(api.XIn, a), between(a, a), between(a, b), between(b, a), {Kind: api.XIn, A: a, B: b, OutLo: true}, {Kind: api.XIn, A: a, B: b, OutHi: true}, {Kind: api.XIn, A: a, B: b, OutLo: true, OutHi: true}, {B: a}, {OutLo: true}, {OutHi: true}, {A: api.Expr{S: "x"}}, {B: api.Expr{V: num(1)}}} {
		l = append(l, of(x), not(of(x)), of(x, x), of(is(a), x, is(b)), of(x, is(a), is(b)), api.Cell{Any: true, Tests: []api.Test{x}})
	}
	l = append(l, api.Cell{}, api.Cell{Any: true}, api.Cell{Not: true}, api.Cell{Any: true, Not: true})
	for i, c := range l {
		for j, d := range l {
			want := reflect.DeepEqual(c, d)
			if cell.Same(c, d) != want {
				t.Errorf("Same(%v, %v) is not %t (%d, %d)", c, d, want, i, j)
			}
		}
	}
	empty := api.Cell{Tests: []api.Test{{Kind: api.XEq, A: api.Expr{Op: api.OName, S: "a", L: []api.Expr{}}, B: api.Expr{L: []api.Expr{}}}}}
	if !cell.Same(api.Cell{}, api.Cell{Tests: []api.Test{}}) || !cell.Same(empty, of(is(a))) || !cell.Same(of(is(a)), empty) {
		t.Error("an empty list is not as none")
	}
}

// P17.2: texts, and what they are.
func TestParse(t *testing.T) {
	a, b, one, two := name("a"), name("b"), val(num(1)), val(num(2))
	for s, want := range map[string]api.Cell{
		"-": {Any: true}, "  - ": {Any: true}, "-1": of(is(op(api.ONeg, one))), "- a": of(is(op(api.ONeg, a))), "1": of(is(one)), " a ": of(is(a)), `"-"`: of(is(val(txt("-")))), `"not"`: of(is(val(txt("not")))), "null": of(is(val(null()))), "true,false": of(is(val(truth(1))), is(val(truth(0)))), "1,a": of(is(one), is(a)),
		"<1": of(as(api.XLt, one)), "<=1": of(as(api.XLe, one)), ">1": of(as(api.XGt, one)), ">=1": of(as(api.XGe, one)), "<-1": of(as(api.XLt, op(api.ONeg, one))), "< a + b": of(as(api.XLt, op(api.OAdd, a, b))), "<1,>2": of(as(api.XLt, one), as(api.XGt, two)),
		"[1..2]": of(between(one, two)), "]1..2]": of(api.Test{Kind: api.XIn, A: one, B: two, OutLo: true}), "[1..2[": of(api.Test{Kind: api.XIn, A: one, B: two, OutHi: true}), "]1 .. 2 [": of(api.Test{Kind: api.XIn, A: one, B: two, OutLo: true, OutHi: true}), "[a+b..-a]": of(between(op(api.OAdd, a, b), op(api.ONeg, a))), "]a..b[,]a..b[": of(api.Test{Kind: api.XIn, A: a, B: b, OutLo: true, OutHi: true}, api.Test{Kind: api.XIn, A: a, B: b, OutLo: true, OutHi: true}),
		"not(1)": not(of(is(one))), "not (1)": not(of(is(one))), " not ( 1 , < a ) ": not(of(is(one), as(api.XLt, a))), "not((1))": not(of(is(one))), "not([1..2[, a)": not(of(api.Test{Kind: api.XIn, A: one, B: two, OutHi: true}, is(a))), "nota": of(is(name("nota"))), "Not": of(is(name("Not"))),
		"(a < b)": of(is(op(api.OLt, a, b))), "< (a < b)": of(as(api.XLt, op(api.OLt, a, b))), "[(a=b)..(a or b)]": of(between(op(api.OEq, a, b), op(api.OOr, a, b))), "(if a then 1 else 2)": of(is(op(api.OIf, a, one, two))), "((a))": of(is(a)), "(a)+1": of(is(op(api.OAdd, a, one))),
	} {
		if c := parsed(t, s); !reflect.DeepEqual(c, want) {
			t.Errorf("Parse(%q): %v, not %v", s, c, want)
		}
	}
}

// refused holds an error of Parse, and its place, against what is wanted.
func refused(t *testing.T, s string, want int, e api.Errno) {
	t.Helper()
	c, place, f := cell.Parse(s)
	if place != want || f != e || !reflect.DeepEqual(c, api.Cell{}) {
		t.Errorf("Parse(%q): %v, %d, %d, not %d, %d", s, c, place, int(f), want, int(e))
	}
}

// P17.2: texts that are none, and where they do not go on.
func TestParseRefuses(t *testing.T) {
	for s, want := range map[string]int{
		"": 0, "  ": 2, "--": 2, "- -": 3, "-,1": 1, "- , -": 2, "1,-": 3, "1 , - , 2": 6, "-)": 1, "(-)": 2, "not": 0, " not": 1, "not a": 0, "not not (1)": 0, "not,": 0, "1, not(2)": 3, "1, not 2": 3, "not(not(1))": 4, "not((not 1))": 5, "not(a), not(b)": 6,
		"not(": 4, "not( ": 5, "not()": 4, "not(-)": 5, "not(1": 5, "not(1,": 6, "not(1,)": 6, "not(1 2)": 6, "not(1)1": 6, "not(1))": 6, "not(1)(2)": 6, "not(1) + 2": 7, "not(1],)": 5, "a not(1)": 2, "a, b)": 4, "(1": 2, "(1, 2)": 2, "(< 1)": 1,
		",": 0, "1,": 2, ",1": 0, "1,,2": 2, "1 2": 2, "a b": 2, "1 = 2": 2, "a != 1": 2, "a or b": 2, "a and b": 2, "if a then 1 else 2": 0, "< if a then 1 else 2": 2, "< a or b": 4, "then": 0, "and": 0, "=1": 0, "!=1": 0, "= = 1": 0, "+1": 0,
		"<": 1, "<=": 2, "< ": 2, "< < 1": 2, "< 1 < 2": 4, "<1..2": 2, "< [1..2]": 2, "<,": 1, "< not(1)": 2,
		"[": 1, "]": 1, "[1": 2, "[1..": 4, "[1..2": 5, "[1..2)": 5, "[1..2,": 5, "[1 2]": 3, "[1,2]": 2, "[..2]": 1, "[1..]": 4, "[1..2] ]": 7, "[1..2][": 6, "[1..2] 3": 7, "[1..2..3]": 5, "1..2": 1, "1..2]": 1, "[1 = 2..3]": 3, "[1..2 < 3]": 6, "[< 1..2]": 1, "[[1..2]..3]": 1, "(1..2)": 2, "[1 .. .. 2]": 6, "[-]": 2,
	} {
		refused(t, s, want, api.ErrSyntax)
	}
}

// P17.2: errors of tokens come first, with their places; then those of how tokens stand; then there are too many tests; then an expression is too deep.
func TestParseOrder(t *testing.T) {
	many, deep := strings.Repeat("1,", mostTests)+"1", strings.Repeat("-", mostDeep)+"1"
	refused(t, many, 0, api.ErrLimit)
	refused(t, "not("+many+")", 0, api.ErrLimit)
	refused(t, strings.Repeat("1,", 60)+"1", 0, api.ErrLimit)
	refused(t, strings.Repeat("[1..2],", mostTests)+"<1", 0, api.ErrLimit)
	refused(t, many+",", len(many)+1, api.ErrSyntax)
	refused(t, many+"]", len(many), api.ErrSyntax)
	refused(t, deep+","+many, 0, api.ErrLimit)
	refused(t, deep+",,", len(deep)+1, api.ErrSyntax)
	refused(t, deep+" 1", len(deep)+1, api.ErrSyntax)
	for _, s := range []string{"%s", " %s ", "not(%s)", "<%s", ">= %s", "[%s..1]", "[1..%s]", "]%s..1[", "1,%s", "%s,1", "not(1,[1..%s[,2)", "1,1,1,1,1,1,1,1,1,1,1,%s", "(1 < %s)", "1 + (2 * (3 - %s))"} {
		refused(t, fmt.Sprintf(s, deep), 0, api.ErrDeep)
		refused(t, fmt.Sprintf(s, deep)+" ]", len(fmt.Sprintf(s, deep))+1, api.ErrSyntax)
	}
	parsed(t, deep[1:])
	parsed(t, "["+deep[1:]+".."+deep[1:]+"]")
	parsed(t, strings.Repeat("<1,", mostTests-1)+deep[1:])
	parsed(t, strings.Repeat("(", 90)+"1"+strings.Repeat(")", 90))
	for _, c := range []struct {
		s     string
		place int
		e     api.Errno
	}{
		{strings.Repeat(" ", mostSource+1), 0, api.ErrBig}, {strings.Repeat(")", mostSource+1), 0, api.ErrBig}, {strings.Repeat("-", mostSource) + "1", 0, api.ErrBig}, {"9223372036854775808", 0, api.ErrOver}, {"), 9223372036854775808", 3, api.ErrOver}, {many + ",01", len(many) + 1, api.ErrSyntax}, {"1 2, a \"", 7, api.ErrSyntax}, {") " + strings.Repeat("q", 17), 2, api.ErrBig}, {") \"" + strings.Repeat("q", 41) + "\"", 2, api.ErrBig}, {"[1...2]", 4, api.ErrSyntax}, {"not(1) ?", 7, api.ErrSyntax}, {"1 \x00", 2, api.ErrSyntax}, {"! 1", 0, api.ErrSyntax}, {"1.5", 1, api.ErrSyntax},
	} {
		refused(t, c.s, c.place, c.e)
	}
}

// grammar tells, of each part of a cell, what it may be: words, and other parts, with a blank between two. The first one is always the shortest.
func grammar() map[string][]string {
	return map[string][]string{
		"cell": {"tests", "-", "not( tests )"}, "tests": {"test", "test , tests"}, "test": {"e4", "< e4", "<= e4", "> e4", ">= e4", "from e4 .. e4 to"}, "from": {"[", "]"}, "to": {"]", "["},
		"e0": {"e1", "if e0 then e0 else e0"}, "e1": {"e2 r1"}, "r1": {"", "or e2 r1"}, "e2": {"e3 r2"}, "r2": {"", "and e3 r2"}, "e3": {"e4 r3"}, "r3": {"", "= e4", "!= e4", "< e4", "<= e4", "> e4", ">= e4"},
		"e4": {"e5 r4"}, "r4": {"", "+ e5 r4", "- e5 r4"}, "e5": {"e6 r5"}, "r5": {"", "* e6 r5", "/ e6 r5"}, "e6": {"e7", "- e6"}, "e7": {"name", "value", "( e0 )"},
	}
}

// machine goes through words by the grammar. Where it is, is told by all that may still stand there: parts and words, the next one first, with a blank between two.
type machine struct {
	grammar map[string][]string
	known   map[[2]string][]string
}

func machineOf() machine {
	return machine{grammar(), map[[2]string][]string{}}
}

// behind tells what may stand behind a word, where something may stand.
func (m machine) behind(may, word string) []string {
	key := [2]string{may, word}
	l, there := m.known[key]
	if there || may == "" {
		return l
	}
	top, rest, _ := strings.Cut(may, " ")
	choices, inner := m.grammar[top]
	if !inner && top == word {
		l = []string{rest}
	}
	for _, choice := range choices {
		l = append(l, m.behind(strings.TrimSpace(choice+" "+rest), word)...)
	}
	slices.Sort(l)
	l = slices.Compact(l)
	m.known[key] = l
	return l
}

// next tells that of all that may stand.
func (m machine) next(all []string, word string) []string {
	var l []string
	for _, may := range all {
		l = append(l, m.behind(may, word)...)
	}
	slices.Sort(l)
	return slices.Compact(l)
}

// enough tells whether nothing more need stand.
func (m machine) enough(all []string) bool {
	return slices.ContainsFunc(all, func(may string) bool {
		return !slices.ContainsFunc(strings.Fields(may), func(s string) bool { return !slices.Contains(m.grammar[s], "") })
	})
}

// wordOf tells what the grammar has for a token.
func wordOf(token string) string {
	switch c := token[0]; {
	case slices.Contains(strings.Fields("true false null"), token) || c >= '0' && c <= '9' || c == '"':
		return "value"
	case lex.Name(token):
		return "name"
	}
	return token
}

// fault tells the first token that does not go on: how many there are, if more is asked for, and -1, if they are a cell. A not and the ( behind it are one word, and any other not is none.
func (m machine) fault(tokens []string) int {
	all := []string{"cell"}
	for i := 0; i < len(tokens); i++ {
		at, word := i, wordOf(tokens[i])
		if word == "not" && i+1 < len(tokens) && tokens[i+1] == "(" {
			word = "not("
			i++
		}
		if all = m.next(all, word); len(all) == 0 {
			return at
		}
	}
	if !m.enough(all) {
		return len(tokens)
	}
	return -1
}

// testOf tells the test that tokens are.
func testOf(t *testing.T, tokens []string) (x api.Test, e api.Errno) {
	t.Helper()
	i := slices.Index(tokens, "..")
	part := func(l []string) api.Expr {
		s, _ := laid(nil, l, 0)
		x, _, f := syntax.Parse(s)
		if f != api.OK {
			e = f
		}
		return x
	}
	last := len(tokens) - 1
	switch s := tokens[0]; s {
	case "<", "<=", ">", ">=":
		x = as(map[string]api.TestKind{"<": api.XLt, "<=": api.XLe, ">": api.XGt, ">=": api.XGe}[s], part(tokens[1:]))
	case "[", "]":
		x = between(part(tokens[1:i]), part(tokens[i+1:last]))
		x.OutLo, x.OutHi = s == "]", tokens[last] == "["
	default:
		x = is(part(tokens))
	}
	return x, e
}

// cellOf tells the cell that tokens are, which is known to be one: commas stand between tests alone.
func cellOf(t *testing.T, tokens []string) (api.Cell, api.Errno) {
	t.Helper()
	if len(tokens) == 1 && tokens[0] == "-" {
		return api.Cell{Any: true}, api.OK
	}
	var c api.Cell
	if tokens[0] == "not" {
		c.Not = true
		tokens = tokens[2 : len(tokens)-1]
	}
	deep := api.OK
	for more := true; more; {
		i := slices.Index(tokens, ",")
		if more = i >= 0; !more {
			i = len(tokens)
		}
		x, e := testOf(t, tokens[:i])
		if e != api.OK {
			deep = e
		}
		c.Tests, tokens = append(c.Tests, x), tokens[min(i+1, len(tokens)):]
	}
	if len(c.Tests) > mostTests {
		return api.Cell{}, api.ErrLimit
	}
	if deep != api.OK {
		return api.Cell{}, deep
	}
	return c, api.OK
}

// sticks tells whether a blank must stand between two tokens.
func sticks(a, b string) bool {
	inWord := func(c byte) bool { return c == '_' || c >= '0' && c <= '9' || c|32 >= 'a' && c|32 <= 'z' }
	return inWord(a[len(a)-1]) && inWord(b[0]) || (a == "<" || a == ">") && b[0] == '='
}

// laid tells a text that tokens are written as, with up to so many blanks here and there, and where each token begins.
func laid(r *rand.Rand, tokens []string, most int) (string, []int) {
	var at []int
	blanks := func() string {
		if most == 0 {
			return ""
		}
		return strings.Repeat(" ", r.Intn(most+1))
	}
	s := blanks()
	for i, token := range tokens {
		if i > 0 && sticks(tokens[i-1], token) && s[len(s)-1] != ' ' {
			s += " "
		}
		at = append(at, len(s))
		s += token + blanks()
	}
	return s, at
}

// read holds what Parse tells of tokens against what is wanted.
func (m machine) read(t *testing.T, r *rand.Rand, tokens []string, has map[api.Errno]int) {
	t.Helper()
	s, at := laid(r, tokens, r.Intn(3))
	var want api.Cell
	place, e := 0, api.OK
	fault := m.fault(tokens)
	switch {
	case len(s) > mostSource:
		e = api.ErrBig
	case fault == len(tokens):
		place, e = len(s), api.ErrSyntax
	case fault >= 0:
		place, e = at[fault], api.ErrSyntax
	default:
		want, e = cellOf(t, tokens)
	}
	has[e]++
	c, found, f := cell.Parse(s)
	if !reflect.DeepEqual(c, want) || found != place || f != e {
		t.Fatalf("Parse(%q): %v, %d, %d, not %v, %d, %d", s, c, found, int(f), want, place, int(e))
	}
	if f == api.OK && cell.Check(c) != api.OK {
		t.Fatalf("Parse(%q): %v is no cell", s, c)
	}
}

// alphabet tells tokens of all kinds.
func alphabet() []string {
	return strings.Fields(`a b7 5 0 "x" "-" null true not and or if then else ( ) [ ] , .. + - * / = != < <= > >=`)
}

// short reads all texts of up to so many tokens, up to the first one that does not go on, and some that go on behind that.
func (m machine) short(t *testing.T, letters []string, most int) map[api.Errno]int {
	t.Helper()
	r, has := rand.New(rand.NewSource(17)), map[api.Errno]int{}
	letter := func() string { return letters[r.Intn(len(letters))] }
	for l := [][]string{nil}; len(l) > 0; l = l[1:] {
		tokens := l[0]
		m.read(t, r, tokens, has)
		switch fault := m.fault(tokens); {
		case fault >= 0 && fault < len(tokens):
			m.read(t, r, append(slices.Clone(tokens), letter(), letter()), has)
		case len(tokens) < most:
			for _, s := range letters {
				l = append(l, append(slices.Clone(tokens), s))
			}
		}
	}
	return has
}

// P17.2: all short texts.
func TestParseAll(t *testing.T) {
	m := machineOf()
	for _, has := range []map[api.Errno]int{m.short(t, alphabet(), 4), m.short(t, strings.Fields("a not ( ) [ ] , .. < -"), 8)} {
		if has[api.OK] < 500 || has[api.ErrSyntax] < 10000 {
			t.Error("too few texts of a kind", has)
		}
	}
}

// grown tells tokens that are, by the grammar, some part of a cell. Where there is no room any more each part is as short as it can be.
func (m machine) grown(r *rand.Rand, part string, room *int) []string {
	choices, inner := m.grammar[part]
	switch {
	case part == "name":
		return []string{[]string{"a", "b7", "_", "iff", "nota", "x"}[r.Intn(6)]}
	case part == "value":
		return []string{[]string{"0", "17", `"x"`, `"..,]"`, `"a\"b"`, "null", "true", "false", "9223372036854775807"}[r.Intn(9)]}
	case part == "not(":
		return []string{"not", "("}
	case !inner:
		return []string{part}
	}
	choice := choices[0]
	if *room > 0 {
		choice = choices[r.Intn(len(choices))]
	}
	*room--
	var l []string
	for _, s := range strings.Fields(choice) {
		l = append(l, m.grown(r, s, room)...)
	}
	return l
}

// some tells tokens of some part, with up to so much room.
func (m machine) some(r *rand.Rand, part string, most int) []string {
	room := r.Intn(1 + r.Intn(most))
	return m.grown(r, part, &room)
}

// turned tells tokens of which one was taken out, or put in, or turned, or of which the last ones are left out.
func turned(r *rand.Rand, tokens []string) []string {
	l, s := slices.Clone(tokens), alphabet()[r.Intn(len(alphabet()))]
	i := r.Intn(len(l) + 1)
	switch choice := r.Intn(5); {
	case choice == 0 || i == len(l):
		return slices.Insert(l, i, s)
	case choice == 1:
		return slices.Delete(l, i, i+1)
	case choice == 2:
		l[i] = s
	case choice == 3:
		j := r.Intn(len(l))
		l[i], l[j] = l[j], l[i]
	default:
		return l[:i]
	}
	return l
}

// P17.2: longer texts, and such in which something was turned.
func TestParseMany(t *testing.T) {
	m, r, has := machineOf(), rand.New(rand.NewSource(2)), map[api.Errno]int{}
	for range 15000 {
		tokens := m.some(r, "cell", 200)
		m.read(t, r, tokens, has)
		if len(tokens) < 60 {
			tokens = turned(r, tokens)
			m.read(t, r, tokens, has)
			m.read(t, r, turned(r, tokens), has)
		}
	}
	for range 3000 {
		// Of more tests than there may be, and such with expressions that are too deep.
		var tokens []string
		for range 8 + r.Intn(10) {
			tokens = append(append(tokens, m.some(r, "test", 12)...), ",")
		}
		if r.Intn(2) == 0 {
			i := r.Intn(len(tokens))
			tokens = slices.Insert(tokens, i, slices.Repeat([]string{"-"}, 9+r.Intn(5))...)
		}
		m.read(t, r, tokens[:len(tokens)-1], has)
		m.read(t, r, tokens, has)
	}
	for _, e := range []api.Errno{api.OK, api.ErrSyntax, api.ErrBig, api.ErrLimit, api.ErrDeep} {
		if has[e] < 300 {
			t.Error("too few texts of a kind", has)
		}
	}
}

// columns tells columns of each kind; in row n, o and m are null.
func columns() []api.Column {
	return []api.Column{{Name: "i", Kind: api.KInt}, {Name: "t", Kind: api.KText}, {Name: "b", Kind: api.KBool}, {Name: "n", Kind: api.KInt}, {Name: "o", Kind: api.KText}, {Name: "m", Kind: api.KBool}}
}

// row tells values of columns.
func row() []api.Value {
	return []api.Value{num(7), txt("abc"), truth(1), {}, {}, {}}
}

// pool tells expressions of all kinds and all levels, and such that tell errors.
func pool(t *testing.T) []api.Expr {
	t.Helper()
	var l []api.Expr
	for _, s := range strings.Split(`null;0;6;7;9223372036854775807;"";"abc";"abd";"\"\\";true;false;i;t;b;n;o;m;-i;i + 1;i - 1;i * -1;-i * 2;7 / 2;n + 1;t + "d";"a" + o;i < 8;i = 7;i >= n;t != "abc";b and m;m or b;not_;if b then i else n;if m then t else o;if n = null then false else b;(i + 1) * 2;-(i - 8);(if b then i else 0) + 1;q;-q;1 / 0;9223372036854775807 + i;"1234567890123456789012345678901234567890" + t;-t;i + t;b + 1;i and b;if i then 1 else 2;if b then 1 else "x";if b then i else t;q + 1 / 0`, ";") {
		l = append(l, exprOf(t, s))
	}
	return l
}

// tests tells tests of all kinds with one or two expressions.
func tests(a, b api.Expr) []api.Test {
	l := []api.Test{is(a)}
	for _, kind := range compares() {
		l = append(l, as(kind, a))
	}
	for k := range 4 {
		l = append(l, api.Test{Kind: api.XIn, A: a, B: b, OutLo: k&1 != 0, OutHi: k&2 != 0})
	}
	return l
}

// many tells right cells: of each test that can be made of the pool, and of several at random.
func many(t *testing.T) []api.Cell {
	t.Helper()
	l := []api.Cell{{Any: true}}
	r := rand.New(rand.NewSource(1))
	p := pool(t)
	for _, a := range p {
		for _, b := range p {
			for _, x := range tests(a, b) {
				l = append(l, of(x))
			}
		}
	}
	for range 20000 {
		c := api.Cell{Not: r.Intn(2) == 0}
		for range 1 + r.Intn(1+r.Intn(mostTests)) {
			all := tests(p[r.Intn(len(p))], p[r.Intn(len(p))])
			c.Tests = append(c.Tests, all[r.Intn(len(all))])
		}
		l = append(l, c)
	}
	return l
}

// fitting tells a right cell of one kind: its expressions have that kind, or are null, so that it can be asked of it.
func fitting(r *rand.Rand, p []api.Expr, kind api.Kind) api.Cell {
	var own []api.Expr
	for _, x := range p {
		if k, e := typing.Kind(x, columns()); e == api.OK && (k == kind || k == api.KNull) {
			own = append(own, x)
		}
	}
	c := api.Cell{Not: r.Intn(2) == 0}
	for range 1 + r.Intn(4) {
		all := tests(own[r.Intn(len(own))], own[r.Intn(len(own))])
		if kind == api.KBool {
			all = all[:1]
		}
		c.Tests = append(c.Tests, all[r.Intn(len(all))])
	}
	return c
}

// textOf tells what a right cell is written as, by the chapter's words: an expression stands in ( ), if it can't be read at level 4.
func textOf(t *testing.T, c api.Cell) string {
	t.Helper()
	if c.Any {
		return "-"
	}
	part := func(x api.Expr) string {
		s, e := syntax.Text(x)
		l, _, f := lex.Lex(s)
		if e != api.OK || f != api.OK {
			t.Fatalf("%v: %d, %d", x, int(e), int(f))
		}
		if _, n, _ := syntax.Read(l, 0, 4); n < len(l) {
			return "(" + s + ")"
		}
		return s
	}
	var l []string
	for _, x := range c.Tests {
		ahead := map[api.TestKind]string{api.XEq: "", api.XLt: "< ", api.XLe: "<= ", api.XGt: "> ", api.XGe: ">= ", api.XIn: "["}[x.Kind]
		behind := ""
		if x.Kind == api.XIn {
			if x.OutLo {
				ahead = "]"
			}
			behind = ".." + part(x.B) + map[bool]string{true: "[", false: "]"}[x.OutHi]
		}
		l = append(l, ahead+part(x.A)+behind)
	}
	s := strings.Join(l, ", ")
	if c.Not {
		s = "not(" + s + ")"
	}
	return s
}

// P17.3: what texts are written as.
func TestText(t *testing.T) {
	for s, want := range map[string]string{
		" - ": "-", "-1": "-1", "- - a": "--a", "1 ,2": "1, 2", "<1": "< 1", "<=1": "<= 1", ">1": "> 1", ">=1": ">= 1", "< -1": "< -1", "[1..2]": "[1..2]", "[ 1 .. 2 [": "[1..2[", "]1..2]": "]1..2]", "] 1..2 [": "]1..2[", "not ( 1 )": "not(1)", "not(1,[a..b[,<c)": "not(1, [a..b[, < c)", "[-1..-a]": "[-1..-a]",
		"(1)": "1", "((a+b))": "a + b", "< (a*b)": "< a * b", "[(a)..((b))]": "[a..b]", "(a=b)": "(a = b)", "< (a!=b)": "< (a != b)", "(a<b)": "(a < b)", "(a<=b)": "(a <= b)", "(a>b)": "(a > b)", "(a>=b)": "(a >= b)", "(a and b)": "(a and b)", "(a or b)": "(a or b)", "(if a then b else c)": "(if a then b else c)", "[(a or b)..(a=b)]": "[(a or b)..(a = b)]", "]1..(a<b)[": "]1..(a < b)[", "(a=b)+1": "(a = b) + 1", "-(a=b)": "-(a = b)",
		`"x,\"]"`: `"x,\"]"`, "null,true , false": "null, true, false", "a-b-c,a-(b-c)": "a - b - c, a - (b - c)",
	} {
		if got, e := cell.Text(parsed(t, s)); got != want || e != api.OK {
			t.Errorf("Text of %q: %q, %d, not %q", s, got, int(e), want)
		}
	}
	for _, c := range many(t) {
		want, e := textOf(t, c), api.OK
		if len(want) > mostSource {
			want, e = "", api.ErrBig
		}
		if s, f := cell.Text(c); s != want || f != e {
			t.Fatalf("Text(%v): %q, %d, not %q, %d", c, s, int(f), want, int(e))
		}
	}
}

// sized tells an expression whose text has just so many bytes, 7 at least.
func sized(n int) api.Expr {
	x := val(txt(""))
	for rest := n - 2; rest > 0; {
		piece := min(45, rest)
		if left := rest - piece; left > 0 && left < 5 {
			piece -= 5
		}
		x = op(api.OAdd, x, val(txt(strings.Repeat("z", piece-5))))
		rest -= piece
	}
	return x
}

// P17.3: a cell's text has at most 200 bytes, whatever they are of.
func TestTextBig(t *testing.T) {
	one := val(num(1))
	for n := 90; n <= mostSource+20; n++ {
		x := sized(n)
		for _, c := range []struct {
			of          api.Cell
			times, more int
		}{
			{of(is(x)), 1, 0}, {not(of(is(x))), 1, 5}, {of(as(api.XLt, x)), 1, 2}, {of(as(api.XGe, x)), 1, 3}, {of(between(x, one)), 1, 5}, {of(between(one, x)), 1, 5}, {of(between(x, x)), 2, 4}, {of(is(one), is(x)), 1, 3}, {of(is(x), is(x)), 2, 2}, {not(of(is(x), as(api.XLe, one))), 1, 11}, {of(is(op(api.OEq, one, x))), 1, 6}, {of(is(op(api.ONeg, x))), 1, 3},
		} {
			want, e := n*c.times+c.more, api.OK
			if want > mostSource {
				want, e = 0, api.ErrBig
			}
			if s, f := cell.Text(c.of); len(s) != want || f != e {
				t.Errorf("Text of an expression of %d bytes: %q, %d, not %d bytes, %d", n, s, int(f), want, int(e))
			}
		}
	}
	// As many tests as there may be, and expressions as deep as they may be.
	full := op(api.OAdd, one, one)
	for range 10 {
		full = op(api.OAdd, full, full)
	}
	for _, c := range []api.Cell{of(is(full)), of(slices.Repeat([]api.Test{between(full, full)}, mostTests)...), of(slices.Repeat([]api.Test{is(sized(30))}, mostTests)...)} {
		if s, e := cell.Text(c); s != "" || e != api.ErrBig {
			t.Errorf("Text: %q, %d", s, int(e))
		}
	}
}

// together tells whether kinds go together.
func together(a, b api.Kind) bool {
	return a == b || a == api.KNull || b == api.KNull
}

// typed tells what Typed is to tell of a right cell, by the chapter's words.
func typed(c api.Cell, kind api.Kind, l []api.Column) api.Errno {
	for _, x := range c.Tests {
		a, e := typing.Kind(x.A, l)
		if e != api.OK {
			return e
		}
		b := api.KNull
		if x.Kind == api.XIn {
			if b, e = typing.Kind(x.B, l); e != api.OK {
				return e
			}
		}
		if !together(a, kind) || !together(b, kind) {
			return api.ErrType
		}
		if x.Kind != api.XEq && (kind == api.KBool || a == api.KBool || b == api.KBool) {
			return api.ErrType
		}
	}
	return api.OK
}

// P17.4: texts that can be asked of inputs, and such that can't.
func TestTyped(t *testing.T) {
	n, i, x, b := api.KNull, api.KInt, api.KText, api.KBool
	for s, want := range map[string]map[api.Kind]api.Errno{
		"-": {n: 0, i: 0, x: 0, b: 0, 4: 0, -1: 0}, "null": {n: 0, i: 0, x: 0, b: 0, 4: 0}, "not(null, null)": {n: 0, i: 0, x: 0, b: 0}, "1": {n: 0, i: 0, x: api.ErrType, b: api.ErrType, 4: api.ErrType}, "t": {n: 0, x: 0, i: api.ErrType, b: api.ErrType}, "true": {n: 0, b: 0, i: api.ErrType, x: api.ErrType}, "i, null, 3": {i: 0, x: api.ErrType}, "not(i, t)": {i: api.ErrType, x: api.ErrType, n: 0},
		"< 1": {n: 0, i: 0, x: api.ErrType, b: api.ErrType}, "<= null": {n: 0, i: 0, x: 0, b: api.ErrType}, "> b": {n: api.ErrType, i: api.ErrType, x: api.ErrType, b: api.ErrType}, ">= \"x\"": {n: 0, i: api.ErrType, x: 0, b: api.ErrType}, "[1..i]": {n: 0, i: 0, x: api.ErrType, b: api.ErrType}, "[null..i]": {i: 0, x: api.ErrType, n: 0}, "[o..null[": {x: 0, i: api.ErrType, n: 0}, "[null..null]": {n: 0, i: 0, x: 0, b: api.ErrType}, "[1..t]": {n: 0, i: api.ErrType, x: api.ErrType}, "[true..null]": {n: api.ErrType, b: api.ErrType}, "[null..b]": {n: api.ErrType, b: api.ErrType},
		"q": {n: api.ErrName, i: api.ErrName, b: api.ErrName}, "i + t": {i: api.ErrType}, "[q..-t]": {i: api.ErrName}, "[-t..q]": {i: api.ErrType}, "[t..q]": {i: api.ErrName}, "[b..q]": {i: api.ErrName, b: api.ErrName}, "t, q": {i: api.ErrType, x: api.ErrName}, "q, t": {i: api.ErrName}, "< b, q": {i: api.ErrType, b: api.ErrType}, "1, i, [1..2], < q": {i: api.ErrName}, "not(true, q)": {b: api.ErrName}, "null, null + 1": {n: 0, i: 0, x: api.ErrType},
	} {
		for kind, e := range want {
			if f := cell.Typed(parsed(t, s), kind, columns()); f != e {
				t.Errorf("Typed(%q, %d): %d, not %d", s, int(kind), int(f), int(e))
			}
		}
	}
}

// P17.4: cells of all tests, asked of inputs of all kinds, with these columns, or others, or none.
func TestTypedMany(t *testing.T) {
	has := map[api.Errno]int{}
	others := append([]api.Column{{Name: "i", Kind: api.KText}, {Name: "q", Kind: api.KBool}, {Name: "", Kind: 9}, {Name: "n", Kind: 4}, {Name: "o", Kind: api.KNull}}, columns()...)
	for k, c := range many(t) {
		for _, l := range [][]api.Column{columns(), others, nil}[:1+2*min(1, k%7/6)] {
			for _, kind := range []api.Kind{api.KNull, api.KInt, api.KText, api.KBool, 4, -1, math.MinInt} {
				want := typed(c, kind, l)
				has[want]++
				if e := cell.Typed(c, kind, l); e != want {
					t.Fatalf("Typed(%q, %d, %d columns): %d, not %d", textOf(t, c), int(kind), len(l), int(e), int(want))
				}
			}
		}
	}
	for _, e := range []api.Errno{api.OK, api.ErrName, api.ErrType} {
		if has[e] < 1000 {
			t.Error("too few cells of a kind", has)
		}
	}
}

// less tells whether a number or a text stands ahead of another one.
func less(v, w api.Value) bool {
	if v.Kind == api.KInt {
		return v.N < w.N
	}
	return v.S < w.S
}

// testHolds tells whether a right test holds of a value, by the chapter's words.
func testHolds(x api.Test, v api.Value, l []api.Column, row []api.Value) (bool, api.Errno) {
	a, e := eval.Eval(x.A, l, row)
	if e != api.OK {
		return false, e
	}
	b := a
	if x.Kind == api.XIn {
		if b, e = eval.Eval(x.B, l, row); e != api.OK {
			return false, e
		}
	}
	switch {
	case !together(v.Kind, a.Kind) || !together(v.Kind, b.Kind):
		return false, api.ErrType
	case x.Kind == api.XEq:
		return v == a, api.OK
	case v.Kind == api.KBool || a.Kind == api.KBool || b.Kind == api.KBool:
		return false, api.ErrType
	case v.Kind == api.KNull || a.Kind == api.KNull || b.Kind == api.KNull:
		return false, api.OK
	}
	switch x.Kind {
	case api.XLt:
		return less(v, a), api.OK
	case api.XLe:
		return !less(a, v), api.OK
	case api.XGt:
		return less(a, v), api.OK
	case api.XGe:
		return !less(v, a), api.OK
	}
	return (less(a, v) || v == a && !x.OutLo) && (less(v, b) || v == b && !x.OutHi), api.OK
}

// cellHolds tells whether a right cell holds of a value, by the chapter's words.
func cellHolds(c api.Cell, v api.Value, l []api.Column, row []api.Value) (bool, api.Errno) {
	for _, x := range c.Tests {
		one, e := testHolds(x, v, l, row)
		if e != api.OK {
			return false, e
		}
		if one {
			return !c.Not, api.OK
		}
	}
	return c.Any || c.Not, api.OK
}

// asked holds an answer of Holds against what is wanted.
func asked(t *testing.T, c api.Cell, v api.Value, l []api.Column, row []api.Value, want bool, e api.Errno) {
	t.Helper()
	if is, f := cell.Holds(c, v, l, row); is != want || f != e {
		s, no := cell.Text(c)
		if no != api.OK {
			s = fmt.Sprint("a cell without a text: error ", int(no))
		}
		t.Fatalf("Holds(%q, %v, %d columns, %v): %t, %d, not %t, %d", s, v, len(l), row, is, int(f), want, int(e))
	}
}

// P17.5: texts, and of which values they hold: those ahead of the bar, and not of those behind.
func TestHolds(t *testing.T) {
	for s, want := range map[string]string{
		"-": `null 0 7 "" "abc" true false |`, "7": "7 | 6 8 -7 null", "i": "7 | 0 null", "null": `null | 0 "" false true 7`, "n": "null | 0 7 true", `"abc"`: `"abc" | "ab" "abcd" "Abc" "" null`, `""`: `"" | "x" null`, "true": "true | false null", "b": "true | false null", "m": "null | true false", "false": "false | true null", "i, 8": "7 8 | 6 9 null", "1, null, 2": "1 2 null | 0 3", "-7": "-7 | 7 0 null", "-9223372036854775807 - 1": "-9223372036854775808 | 9223372036854775807 0",
		"< 7": "6 -8 -9223372036854775808 | 7 8 null", "<= 7": "6 7 | 8 null", "> 7": "8 9223372036854775807 | 7 6 null", ">= 7": "7 8 | 6 null", `< "b"`: `"a" "az" "" "B" | "b" "ba" "c" null`, `<= t`: `"abc" "ab" | "abd" "abca" null`, `> "9"`: `"a" "90" | "10" "9" null`, ">= o": `| "" "x" null`, "< null": `| 0 "x" null`, "> n": "| 0 7 null",
		"[3..5]": "3 4 5 | 2 6 null", "]3..5]": "4 5 | 2 3 6 null", "[3..5[": "3 4 | 2 5 6 null", "]3..5[": "4 | 2 3 5 6 null", "[5..3]": "| 2 3 4 5 6 null", "[4..4]": "4 | 3 5 null", "]4..4]": "| 3 4 5 null", "[4..4[": "| 3 4 5 null", "]4..4[": "| 3 4 5", `["a".."b"[`: `"a" "az" | "b" "A" "" null`, "[null..5]": "| 4 5 null", "[3..null]": "| 3 4 null", "[n..n]": `| 4 "x" null`, "[i..i + 1]": "7 8 | 6 9",
		"not(7)": "6 8 null | 7", "not(1, 2)": "0 3 null | 1 2", "not(null)": `0 "x" true | null`, "not(< 5)": "5 6 null | 4", "not([3..5[)": "2 5 6 null | 3 4", "not(< null)": "0 null |", "not(b)": "false null | true", "not(< 3, > 5)": "3 4 5 null | 2 6", "< 3, > 5, 4": "2 6 4 | 3 5 null",
		"(i = 7)": "true | false null", "(if b then i else t)": "7 | 8 null", "7 / 2": "3 | 4", `t + "d"`: `"abcd" | "abc"`,
		// What stands behind a test that holds is not asked.
		"5, 1 / 0": "5 |", "5, q": "5 |", "5, t": "5 |", "5, < true": "5 |", "< 6, -t": "5 |", "not(5, 1 / 0)": "| 5", "not(> 1, q)": "| 5", "null, [q..1]": "null |",
	} {
		ahead, behind, _ := strings.Cut(want, "|")
		for is, texts := range map[bool]string{true: ahead, false: behind} {
			for _, text := range strings.Fields(texts) {
				asked(t, parsed(t, s), valueOf(t, text), columns(), row(), is, api.OK)
			}
		}
	}
}

// valueOf tells the value that a text is, also the least number.
func valueOf(t *testing.T, s string) api.Value {
	t.Helper()
	if s == "-9223372036854775808" {
		return num(math.MinInt)
	}
	v, e := eval.Eval(exprOf(t, s), nil, nil)
	if e != api.OK {
		t.Fatal(s, int(e))
	}
	return v
}

// P17.5: texts, and the errors that they tell of values: the first one of the tests up to one that holds, of A ahead of B, and of what they tell ahead of whether that goes together with the value.
func TestHoldsErrors(t *testing.T) {
	for s, want := range map[string]map[string]api.Errno{
		"1 / 0": {"1": api.ErrZero, "null": api.ErrZero, "true": api.ErrZero}, "1 / 0, 5": {"5": api.ErrZero}, "5, 1 / 0": {"5": 0, "4": api.ErrZero, "true": api.ErrType}, "not(5, 1 / 0)": {"5": 0, "4": api.ErrZero}, "not(1 / 0, 5)": {"5": api.ErrZero}, "q": {"1": api.ErrName, "null": api.ErrName}, "-t": {"1": api.ErrType}, "9223372036854775807 + i": {"1": api.ErrOver}, `t + "1234567890123456789012345678901234567890"`: {`"x"`: api.ErrBig},
		"[q..1 / 0]": {"1": api.ErrName}, "[1 / 0..q]": {"1": api.ErrZero}, "[1..q]": {"0": api.ErrName, "null": api.ErrName}, "[null..q]": {"1": api.ErrName}, "[t..q]": {"1": api.ErrName}, "[t..1 / 0]": {"1": api.ErrZero}, "[i..t]": {"1": api.ErrType, `"x"`: api.ErrType, "null": 0, "9": api.ErrType}, "[9..t]": {"1": api.ErrType}, "]t..t[": {"1": api.ErrType, `"x"`: 0}, "[true..null]": {"null": api.ErrType, "true": api.ErrType, "1": api.ErrType}, "[null..b]": {"null": api.ErrType, "true": api.ErrType},
		"7": {`"x"`: api.ErrType, "true": api.ErrType, "null": 0, "1": 0}, "t": {"1": api.ErrType, "true": api.ErrType}, "b": {"1": api.ErrType, `"x"`: api.ErrType, "null": 0}, "null": {"1": 0, `"x"`: 0, "true": 0, "null": 0}, "m": {"1": 0}, "8, t": {"8": 0, "1": api.ErrType}, "t, 8": {"8": api.ErrType}, "not(8, t)": {"8": 0, "1": api.ErrType},
		"< 1": {`"x"`: api.ErrType, "true": api.ErrType, "false": api.ErrType, "null": 0}, "<= b": {"true": api.ErrType, "1": api.ErrType, "null": api.ErrType}, "> null": {"true": api.ErrType, "1": 0, "null": 0}, ">= m": {"true": api.ErrType, "null": 0, "1": 0}, "[null..null]": {"true": api.ErrType, "null": 0, "1": 0, `"x"`: 0}, "< t": {"1": api.ErrType, `"x"`: 0}, "true, < 1": {"true": 0, "false": api.ErrType},
		"(if i then 1 else 2)": {"1": api.ErrType}, "(if b then i else q)": {"7": 0}, "(false and q)": {"true": api.ErrName},
	} {
		for text, e := range want {
			if e != api.OK {
				asked(t, parsed(t, s), valueOf(t, text), columns(), row(), false, e)
			} else if _, f := cell.Holds(parsed(t, s), valueOf(t, text), columns(), row()); f != e {
				t.Errorf("Holds(%q, %s): %d", s, text, int(f))
			}
		}
	}
}

// values tells values of all kinds, many of which are next to one another.
func values() []api.Value {
	l := []api.Value{null(), truth(0), truth(1)}
	for _, n := range []int{0, 1, 6, 7, 8, 9, -1, -7, math.MaxInt, math.MaxInt - 1, math.MinInt, math.MinInt + 1} {
		l = append(l, num(n))
	}
	for _, s := range []string{"", " ", "abc", "abcd", "abd", "ab", "ABC", "z", "~", "7", "10", strings.Repeat("~", 40)} {
		l = append(l, txt(s))
	}
	return l
}

// P17.5: tests of all kinds, of values of all kinds, which are compared with values of all kinds.
func TestHoldsTable(t *testing.T) {
	cols := []api.Column{{Name: "x"}, {Name: "y"}}
	has := map[string]int{}
	for _, a := range values() {
		for _, b := range values() {
			for _, x := range tests(name("x"), name("y")) {
				for _, v := range values() {
					want, e := testHolds(x, v, cols, []api.Value{a, b})
					has[fmt.Sprint(x.Kind, want, e)]++
					asked(t, of(x), v, cols, []api.Value{a, b}, want, e)
					asked(t, not(of(x)), v, cols, []api.Value{a, b}, !want && e == api.OK, e)
				}
			}
		}
	}
	for kind := api.XEq; kind <= api.XIn; kind++ {
		for _, n := range []int{has[fmt.Sprint(kind, true, api.OK)], has[fmt.Sprint(kind, false, api.OK)], has[fmt.Sprint(kind, false, api.ErrType)]} {
			if n < 500 {
				t.Error("too few of a kind", has)
			}
		}
	}
}

// P17.5: cells of all tests, with all errors, told as the chapter's words tell them.
func TestHoldsMany(t *testing.T) {
	has := map[string]int{}
	r := rand.New(rand.NewSource(5))
	l := values()
	for _, c := range many(t) {
		for range 3 {
			v := l[r.Intn(len(l))]
			want, e := cellHolds(c, v, columns(), row())
			has[fmt.Sprint(c.Not, want, e)]++
			asked(t, c, v, columns(), row(), want, e)
		}
	}
	for _, no := range []bool{false, true} {
		for _, s := range []string{fmt.Sprint(no, true, api.OK), fmt.Sprint(no, false, api.OK), fmt.Sprint(no, false, api.ErrName), fmt.Sprint(no, false, api.ErrType), fmt.Sprint(no, false, api.ErrBig), fmt.Sprint(no, false, api.ErrOver), fmt.Sprint(no, false, api.ErrZero)} {
			if has[s] < 300 {
				t.Error("too few cells of a kind", s, has)
			}
		}
	}
}

// wrongValues tells what is no value.
func wrongValues() []api.Value {
	return []api.Value{
		{N: 1}, {N: -1}, {S: "x"}, {Kind: api.KInt, S: "x"}, {Kind: api.KInt, N: 1, S: "x"}, {Kind: api.KText, N: 1}, txt(strings.Repeat("x", 41)), txt("\x1f"), txt("\x7f"), txt("\u00e9"), truth(2), truth(-1), {Kind: api.KBool, S: "x"}, {Kind: 4}, {Kind: -1}, {Kind: 1<<32 + 1}, {Kind: math.MaxInt}, {Kind: math.MinInt},
	}
}

// P17.5: a value, and each of the row, is right, and there are as many columns as values, whatever the cell asks, and whatever else goes wrong.
func TestHoldsWrong(t *testing.T) {
	cells := []api.Cell{{Any: true}, of(is(val(null()))), of(is(val(num(7)))), of(is(name("q"))), of(is(op(api.ODiv, val(num(1)), val(num(0))))), not(of(as(api.XLt, val(truth(1))))), of(between(name("i"), name("t")))}
	for _, c := range cells {
		for _, v := range wrongValues() {
			asked(t, c, v, columns(), row(), false, api.ErrArg)
			asked(t, c, v, nil, nil, false, api.ErrArg)
			for at := range row() {
				l := row()
				l[at] = v
				asked(t, c, num(7), columns(), l, false, api.ErrArg)
			}
		}
		for n := range len(columns()) + 1 {
			for k := range len(row()) + 1 {
				want, e := cellHolds(c, num(7), columns()[:n], row()[:k])
				if n != k {
					want, e = false, api.ErrArg
				}
				asked(t, c, num(7), columns()[:n], row()[:k], want, e)
			}
		}
		asked(t, c, num(7), columns(), nil, false, api.ErrArg)
		asked(t, c, num(7), nil, row(), false, api.ErrArg)
	}
	asked(t, api.Cell{Any: true}, num(7), nil, nil, true, api.OK)
	asked(t, api.Cell{Any: true}, num(7), []api.Column{}, []api.Value{}, true, api.OK)
	// Columns are asked for their names alone, and of several of one name the first one counts.
	odd := []api.Column{{Name: "if", Kind: 9}, {Name: "i", Kind: api.KBool}, {Name: "i", Kind: api.KInt}, {Name: "i"}}
	asked(t, of(is(name("i"))), num(7), odd, []api.Value{{}, num(7), num(8), {}}, true, api.OK)
}

// P17.6: what was written is parsed, and is the same cell; what is parsed, if it can be written, is parsed again from that.
func TestBack(t *testing.T) {
	written := map[bool]int{}
	back := func(c api.Cell) {
		s, e := cell.Text(c)
		if written[e == api.OK]++; e != api.OK {
			return
		}
		d := parsed(t, s)
		if !cell.Same(c, d) || !reflect.DeepEqual(c, d) {
			t.Fatalf("%q: %v, not %v", s, d, c)
		}
		if again, e := cell.Text(d); again != s || e != api.OK {
			t.Fatalf("%q is written as %q, %d", s, again, int(e))
		}
	}
	for _, c := range many(t) {
		back(c)
	}
	m, r, longest := machineOf(), rand.New(rand.NewSource(6)), 0
	for range 30000 {
		s, _ := laid(r, m.some(r, "cell", 300), r.Intn(2))
		if c, _, e := cell.Parse(s); e == api.OK {
			longest = max(longest, len(s))
			back(c)
		}
	}
	if written[true] < 40000 || written[false] < 200 || longest < 190 {
		t.Error("too few cells of a kind", written, longest)
	}
}

// P17.7: a cell that is typed for an input tells no error of kinds or names, whatever stands in a row of the columns' kinds, and of whatever value of the input's kind, or null.
func TestSound(t *testing.T) {
	r, p, has := rand.New(rand.NewSource(7)), pool(t), map[string]int{}
	any := func(kind api.Kind) api.Value {
		var own []api.Value
		for _, v := range values() {
			if v.Kind == kind || v.Kind == api.KNull {
				own = append(own, v)
			}
		}
		return own[r.Intn(len(own))]
	}
	sound := func(c api.Cell, kind api.Kind) {
		if cell.Typed(c, kind, columns()) != api.OK {
			return
		}
		var l []api.Value
		for _, column := range columns() {
			l = append(l, any(column.Kind))
		}
		is, e := cell.Holds(c, any(kind), columns(), l)
		has[fmt.Sprint(kind, is, e)]++
		if e == api.ErrType || e == api.ErrName || e == api.ErrArg {
			t.Fatalf("%q, typed for %d: %d of %v", textOf(t, c), int(kind), int(e), l)
		}
	}
	for _, c := range many(t) {
		for kind := range api.KBool + 1 {
			sound(c, kind)
		}
	}
	for range 20000 {
		kind := api.Kind(r.Intn(4))
		sound(fitting(r, p, kind), kind)
	}
	for kind := range api.KBool + 1 {
		for _, is := range []bool{false, true} {
			if has[fmt.Sprint(kind, is, api.OK)] < 500 {
				t.Error("too few cells of a kind", has)
			}
		}
	}
	for _, s := range []string{fmt.Sprint(api.KInt, false, api.ErrZero), fmt.Sprint(api.KInt, false, api.ErrOver), fmt.Sprint(api.KText, false, api.ErrBig)} {
		if has[s] < 100 {
			t.Error("too few cells with an error of numbers or lengths", has)
		}
	}
}

// P17.8: of the same tests one that is to have none that holds does where the other one does not, and both tell the same errors.
func TestNot(t *testing.T) {
	r, p, l, has := rand.New(rand.NewSource(8)), pool(t), values(), map[string]int{}
	opposed := func(c api.Cell, v api.Value) {
		c.Not = false
		is, e := cell.Holds(c, v, columns(), row())
		has[fmt.Sprint(is, e)]++
		asked(t, not(c), v, columns(), row(), !is && e == api.OK, e)
	}
	for _, c := range many(t)[1:] {
		opposed(c, l[r.Intn(len(l))])
	}
	for range 20000 {
		opposed(fitting(r, p, api.Kind(r.Intn(4))), l[r.Intn(len(l))])
	}
	for _, is := range []bool{false, true} {
		if has[fmt.Sprint(is, api.OK)] < 1000 {
			t.Error("too few cells of a kind", has)
		}
	}
}

// copied tells a cell that shares no memory with another one.
func copied(c api.Cell) api.Cell {
	var all func(l []api.Expr) []api.Expr
	all = func(l []api.Expr) []api.Expr {
		var m []api.Expr
		for _, x := range l {
			x.L = all(x.L)
			m = append(m, x)
		}
		return m
	}
	var l []api.Test
	for _, x := range c.Tests {
		x.A.L, x.B.L = all(x.A.L), all(x.B.L)
		l = append(l, x)
	}
	c.Tests = l
	return c
}

// All calls leave what they are given as it was, what stands behind a list's end too, and keep nothing of it.
func TestOwn(t *testing.T) {
	full := parsed(t, "9, < i + 1, [i - 1..(if b then n else i)[, t")
	c := api.Cell{Not: true, Tests: full.Tests[:3]}
	cols, values := append(columns(), api.Column{Name: "g", Kind: api.KInt}), append(row(), num(5))
	wantFull, wantCols, wantValues := copied(full), slices.Clone(cols), slices.Clone(values)
	for range 3 {
		asked(t, c, num(8), cols[:6], values[:6], true, api.OK)
		if s, e := cell.Text(c); s != "not(9, < i + 1, [i - 1..(if b then n else i)[)" || e != api.OK {
			t.Errorf("Text: %q, %d", s, int(e))
		}
		names := cell.Names(c)
		if e := cell.Typed(c, api.KInt, cols[:6]); e != api.OK || !slices.Equal(names, []string{"i", "b", "n"}) || !cell.Same(c, c) || cell.Check(c) != api.OK {
			t.Error("a call does not tell what it told ahead")
		}
		names[0] = "x"
		if !reflect.DeepEqual(full, wantFull) || !reflect.DeepEqual(cols, wantCols) || !reflect.DeepEqual(values, wantValues) {
			t.Fatal("an argument was changed")
		}
	}
	// What an argument was at an earlier call is not asked any more.
	c.Tests[0].A = val(num(8))
	asked(t, c, num(8), cols[:6], values[:6], false, api.OK)
	values[0] = num(8)
	c.Tests[0].A = name("t")
	asked(t, c, num(8), cols[:6], values[:6], false, api.ErrType)
	// Two answers share nothing.
	one, two := parsed(t, "a + b, c"), parsed(t, "a + b, c")
	one.Tests[0].A.L[0] = name("z")
	one.Tests[1] = is(name("z"))
	if !cell.Same(two, parsed(t, "a + b, c")) {
		t.Error("two answers share memory")
	}
}

// All calls end, however many tests there are, and however deep and wide expressions are; such are not right.
func TestMuch(t *testing.T) {
	const n = 100000
	left, right := name("a"), name("b")
	for range n {
		left, right = op(api.OAdd, left, name("c")), op(api.OIf, val(null()), name("d"), right)
	}
	for _, c := range []api.Cell{of(is(left)), of(is(right)), of(between(left, right)), of(between(name("a"), right)), of(slices.Repeat([]api.Test{is(name("a"))}, n)...), of(api.Test{Kind: api.XEq, A: name("a"), B: right})} {
		for _, e := range []api.Errno{cell.Check(c), cell.Typed(c, api.KInt, columns()), cell.Typed(not(c), api.KInt, nil)} {
			if e != api.ErrArg {
				t.Error(int(e))
			}
		}
		if s, e := cell.Text(c); s != "" || e != api.ErrArg {
			t.Error(len(s), int(e))
		}
		if is, e := cell.Holds(c, num(1), columns(), row()); is || e != api.ErrArg {
			t.Error(is, int(e))
		}
		if !cell.Same(c, c) || cell.Same(c, not(c)) {
			t.Error("Same")
		}
	}
	if l := cell.Names(of(between(left, right))); !slices.Equal(l, []string{"a", "c", "d", "b"}) {
		t.Error(l)
	}
	var wide []api.Test
	for k := range n {
		wide = append(wide, is(name(fmt.Sprint("x", k/2))))
	}
	if l := cell.Names(of(wide...)); len(l) != n/2 || l[n/2-1] != fmt.Sprint("x", n/2-1) {
		t.Error(len(l))
	}
	// There may be many columns, too.
	var cols []api.Column
	var values []api.Value
	for k := range n {
		cols, values = append(cols, api.Column{Name: fmt.Sprint("x", k), Kind: api.KInt}), append(values, num(k))
	}
	c := parsed(t, "x1, > x99998, [x3..x5[")
	asked(t, c, num(n-1), cols, values, true, api.OK)
	asked(t, c, num(5), cols, values, false, api.OK)
	asked(t, c, num(5), cols[1:], values, false, api.ErrArg)
	if e := cell.Typed(c, api.KInt, cols); e != api.OK {
		t.Error(int(e))
	}
}

// All calls end of a cell whose expressions hold themselves: it is not right.
func TestEndless(t *testing.T) {
	ring := make([]api.Expr, 2)
	ring[0], ring[1] = name("i"), op(api.OAdd, ring...)
	x := op(api.OAdd, ring...)
	for _, c := range []api.Cell{of(is(x)), of(as(api.XLt, x)), of(between(x, name("i"))), of(between(name("i"), x)), of(api.Test{Kind: api.XEq, A: name("i"), B: x})} {
		checked(t, c, api.ErrArg)
		if l := cell.Names(c); !slices.Equal(l, []string{"i"}) {
			t.Error(l)
		}
		if cell.Same(c, of(is(name("i")))) {
			t.Error("Same")
		}
	}
	// A list at several places is as any other.
	twice := []api.Expr{name("i"), val(num(1))}
	twice = []api.Expr{op(api.OSub, twice...), op(api.OSub, twice...)}
	asked(t, of(between(op(api.OAdd, twice...), op(api.OMul, twice...))), num(12), columns(), row(), true, api.OK)
}
