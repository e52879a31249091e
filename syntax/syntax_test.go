package syntax_test

import (
	"fmt"
	"math"
	"math/rand"
	"reflect"
	"slices"
	"strings"
	"testing"

	"decretal/api"
	"decretal/lex"
	"decretal/syntax"
)

const (
	mostDeep   = 12
	mostSource = 200
	mostText   = 40
)

// mark is an op of two, as the chapter has it: its level, and the levels of its parts.
type mark struct {
	op                 api.Op
	word               string
	level, left, right int
}

// marks tells all ops of two.
func marks() []mark {
	l := []mark{{api.OOr, "or", 1, 1, 2}, {api.OAnd, "and", 2, 2, 3}, {api.OAdd, "+", 4, 4, 5}, {api.OSub, "-", 4, 4, 5}, {api.OMul, "*", 5, 5, 6}, {api.ODiv, "/", 5, 5, 6}}
	for i, word := range strings.Fields("= != < <= > >=") {
		l = append(l, mark{api.OEq + api.Op(i), word, 3, 4, 4})
	}
	return l
}

// markOf tells an op of two.
func markOf(op api.Op) mark {
	l := marks()
	return l[slices.IndexFunc(l, func(m mark) bool { return m.op == op })]
}

func name(s string) api.Expr         { return api.Expr{Op: api.OName, S: s} }
func number(n int) api.Expr          { return val(api.Value{Kind: api.KInt, N: n}) }
func text(s string) api.Expr         { return val(api.Value{Kind: api.KText, S: s}) }
func truth(n int) api.Expr           { return val(api.Value{Kind: api.KBool, N: n}) }
func val(v api.Value) api.Expr       { return api.Expr{Op: api.OVal, V: v} }
func neg(x api.Expr) api.Expr        { return op(api.ONeg, x) }
func add(x, y api.Expr) api.Expr     { return op(api.OAdd, x, y) }
func cond(x, y, z api.Expr) api.Expr { return op(api.OIf, x, y, z) }

// op tells an op of parts.
func op(o api.Op, l ...api.Expr) api.Expr {
	return api.Expr{Op: o, L: l}
}

// singles tells values and names, and what each is written as.
func singles() map[string]api.Expr {
	m := map[string]api.Expr{
		"null": val(api.Value{}), "false": truth(0), "true": truth(1), "0": number(0), "7": number(7), "9223372036854775807": number(math.MaxInt),
		`""`: text(""), `"a"`: text("a"), `"null"`: text("null"), `"+"`: text("+"), `"("`: text("("), `"if"`: text("if"), `"\"\\"`: text(`"\`), `" ~"`: text(" ~"),
		`"` + strings.Repeat("x", mostText) + `"`: text(strings.Repeat("x", mostText)),
	}
	for _, s := range strings.Fields("a b c _ x_1 nulls iff If AND not_x thenx q234567890123456") {
		m[s] = name(s)
	}
	return m
}

// leaves tells the expressions of singles, always in one order.
func leaves() []api.Expr {
	m := singles()
	var keys []string
	for s := range m {
		keys = append(keys, s)
	}
	slices.Sort(keys)
	var l []api.Expr
	for _, s := range keys {
		l = append(l, m[s])
	}
	return l
}

// plain tells an expression with nil in place of each empty list.
func plain(x api.Expr) api.Expr {
	var l []api.Expr
	for _, y := range x.L {
		l = append(l, plain(y))
	}
	x.L = l
	return x
}

// same tells whether two expressions are the same, in another way than the package does.
func same(x, y api.Expr) bool {
	return reflect.DeepEqual(plain(x), plain(y))
}

// deep tells how deep an expression is by the chapter's words.
func deep(x api.Expr) int {
	most := 0
	for _, y := range x.L {
		most = max(most, deep(y))
	}
	return most + 1
}

// namesOf puts an expression's names behind l by the chapter's words.
func namesOf(l []string, x api.Expr) []string {
	if x.Op == api.OName && !slices.Contains(l, x.S) {
		l = append(l, x.S)
	}
	for _, y := range x.L {
		l = namesOf(l, y)
	}
	return l
}

// single tells what a value or a name is written as, by the chapter's words.
func single(x api.Expr) string {
	switch v := x.V; {
	case x.Op == api.OName:
		return x.S
	case v.Kind == api.KInt:
		return fmt.Sprint(v.N)
	case v.Kind == api.KText:
		return `"` + strings.NewReplacer(`"`, `\"`, `\`, `\\`).Replace(v.S) + `"`
	case v.Kind == api.KBool:
		return fmt.Sprint(v.N == 1)
	}
	return "null"
}

// write tells a right expression's text and its level, by the chapter's words.
func write(x api.Expr) (string, int) {
	at := func(i, level int) string {
		s, own := write(x.L[i])
		if own >= level {
			return s
		}
		return "(" + s + ")"
	}
	switch x.Op {
	case api.OVal, api.OName:
		return single(x), 7
	case api.ONeg:
		return "-" + at(0, 6), 6
	case api.OIf:
		return fmt.Sprintf("if %s then %s else %s", at(0, 0), at(1, 0), at(2, 0)), 0
	}
	m := markOf(x.Op)
	return at(0, m.left) + " " + m.word + " " + at(1, m.right), m.level
}

// grow tells an expression of depth most at most.
func grow(r *rand.Rand, l []api.Expr, most int) api.Expr {
	kind := r.Intn(8)
	switch {
	case most == 1 || kind == 0:
		return l[r.Intn(len(l))]
	case kind == 1:
		return neg(grow(r, l, most-1))
	case kind == 2:
		return cond(grow(r, l, most-1), grow(r, l, most-1), grow(r, l, most-1))
	}
	m := marks()
	return op(m[r.Intn(len(m))].op, grow(r, l, most-1), grow(r, l, most-1))
}

// loose tells a text of an expression with blanks and ( ) more than need be.
func loose(r *rand.Rand, x api.Expr, level int) string {
	blanks := func() string { return strings.Repeat(" ", r.Intn(2)) }
	s, own := write(x)
	at := func(i, level int) string { return loose(r, x.L[i], level) }
	switch {
	case own == 7:
	case x.Op == api.ONeg:
		s = "-" + blanks() + at(0, 6)
	case x.Op == api.OIf:
		s = "if " + at(0, 0) + " then " + at(1, 0) + " else " + at(2, 0)
	case own <= 2:
		m := markOf(x.Op)
		s = at(0, m.left) + " " + blanks() + m.word + " " + at(1, m.right)
	default:
		m := markOf(x.Op)
		s = at(0, m.left) + blanks() + m.word + blanks() + at(1, m.right)
	}
	if own < level || r.Intn(6) == 0 {
		s = "(" + blanks() + s + blanks() + ")"
	}
	return s
}

// chains tells expressions of just that depth, deep on each side of each op.
func chains(depth int) []api.Expr {
	l := []api.Expr{name("a")}
	for range depth - 1 {
		var m []api.Expr
		for i, x := range l[:min(len(l), 40)] {
			m = append(m, neg(x), cond(x, name("b"), name("c")), cond(name("b"), x, name("c")), cond(name("b"), name("c"), x))
			for j, k := range marks() {
				if (i+j)%4 == 0 || len(l) < 3 {
					m = append(m, op(k.op, x, number(1)), op(k.op, number(1), x))
				}
			}
		}
		rand.New(rand.NewSource(int64(depth))).Shuffle(len(m), func(i, j int) { m[i], m[j] = m[j], m[i] })
		l = m
	}
	return l
}

// rights tells right expressions of all kinds, some deeper than a text's may be.
func rights() []api.Expr {
	l := leaves()
	for _, x := range leaves() {
		l = append(l, neg(x), add(x, name("a")), op(api.OOr, number(1), x), cond(x, x, x))
	}
	for n := 2; n <= mostDeep+3; n++ {
		m := chains(n)
		l = append(l, m[:min(len(m), 50)]...)
	}
	r := rand.New(rand.NewSource(14))
	for range 2000 {
		l = append(l, grow(r, leaves(), 1+r.Intn(6)))
	}
	return l
}

// wrongHere tells expressions that are not right, and were, but for one thing at their top.
func wrongHere() []api.Expr {
	a, b := name("a"), number(1)
	l := []api.Expr{{}, {L: []api.Expr{a}}, {L: []api.Expr{a, b}}, {L: []api.Expr{a, b, a}}, {S: "a"}, {V: api.Value{Kind: api.KInt, N: 1}}}
	for _, o := range []api.Op{-1, 17, 18, math.MaxInt, math.MinInt, -14, 1 << 32} {
		l = append(l, api.Expr{Op: o}, op(o, a), op(o, a, b), op(o, a, b, a), api.Expr{Op: o, S: "a"}, api.Expr{Op: o, V: b.V})
	}
	for o := api.ONeg; o <= api.OIf; o++ {
		count := 2
		if o == api.ONeg {
			count = 1
		} else if o == api.OIf {
			count = 3
		}
		for n := range 6 {
			x := op(o, slices.Repeat([]api.Expr{a}, n)...)
			if n != count {
				l = append(l, x)
				continue
			}
			for _, v := range []api.Value{{N: 1}, {S: "x"}, {Kind: api.KBool}, {Kind: api.KInt}, {Kind: 9}} {
				l = append(l, api.Expr{Op: o, V: v, L: x.L})
			}
			l = append(l, api.Expr{Op: o, S: "a", L: x.L}, api.Expr{Op: o, S: " ", L: x.L})
		}
	}
	for _, x := range leaves() {
		if x.Op == api.OVal {
			l = append(l, api.Expr{Op: api.OVal, V: x.V, S: "x"}, api.Expr{Op: api.OVal, V: x.V, L: []api.Expr{a}}, api.Expr{Op: api.OVal, V: x.V, L: []api.Expr{{}}}, api.Expr{Op: api.OName, S: "a", V: api.Value{Kind: x.V.Kind, N: x.V.N, S: x.V.S + "x"}})
		} else {
			l = append(l, api.Expr{Op: api.OName, S: x.S, L: []api.Expr{a}}, api.Expr{Op: api.OName, S: x.S, V: api.Value{N: 1}}, api.Expr{Op: api.OName, S: x.S, V: api.Value{Kind: api.KBool}}, api.Expr{Op: api.OVal, S: x.S})
		}
	}
	for _, v := range []api.Value{
		{Kind: api.KInt, N: -1}, {Kind: api.KInt, N: math.MinInt}, {Kind: api.KInt, N: 1, S: "x"}, {N: 1}, {N: -1}, {S: "x"}, {Kind: api.KBool, N: 2}, {Kind: api.KBool, N: -1}, {Kind: api.KBool, S: "x"},
		{Kind: api.KText, N: 1}, {Kind: api.KText, N: -1}, {Kind: api.KText, S: strings.Repeat("x", mostText+1)}, {Kind: api.KText, S: "\x1f"}, {Kind: api.KText, S: "\x7f"}, {Kind: api.KText, S: "\u00e9"}, {Kind: 4}, {Kind: -1}, {Kind: 4, N: 1, S: "x"},
	} {
		l = append(l, val(v))
	}
	for _, s := range []string{"", "and", "or", "not", "if", "then", "else", "true", "false", "null", "1", "1a", "a b", " a", "a ", "-a", "a.b", "\u00e9", "a\x00", `"a"`, "(", "+", strings.Repeat("q", 17), strings.Repeat("q", 100000)} {
		l = append(l, name(s))
	}
	return l
}

// wrongs tells expressions of which some part is not right.
func wrongs() []api.Expr {
	l := wrongHere()
	r := rand.New(rand.NewSource(2))
	a := name("a")
	for _, x := range wrongHere() {
		l = append(l, neg(x), add(x, a), add(a, x), cond(x, a, a), cond(a, x, a), cond(a, a, x), neg(neg(add(a, cond(a, neg(x), a)))))
		y := x
		for range 14 {
			if r.Intn(2) == 0 {
				y = add(a, y)
			} else {
				y = neg(y)
			}
		}
		l = append(l, y)
	}
	return l
}

// P14.1: what is right, however deep it is; an empty list is as nil.
func TestCheck(t *testing.T) {
	for _, x := range rights() {
		if e := syntax.Check(x); e != api.OK {
			t.Fatalf("Check(%v): %d", x, int(e))
		}
	}
	for _, x := range leaves() {
		x.L = []api.Expr{}
		if e := syntax.Check(x); e != api.OK {
			t.Errorf("Check(%v) with an empty list: %d", x, int(e))
		}
	}
}

// P14.1: what is not right, at the top, or in any part.
func TestCheckRefuses(t *testing.T) {
	for _, x := range wrongs() {
		if e := syntax.Check(x); e != api.ErrArg {
			t.Errorf("Check(%v): %d", x, int(e))
		}
	}
}

// P14.1: how deep what is right is, and what is not.
func TestDeep(t *testing.T) {
	a := name("a")
	for i, x := range []api.Expr{a, neg(a), add(a, neg(a)), cond(a, a, neg(neg(a))), op(99, a, a, neg(neg(neg(a))), a, neg(a))} {
		if n := syntax.Deep(x); n != i+1 {
			t.Errorf("Deep(%v): %d, not %d", x, n, i+1)
		}
	}
	for _, x := range append(rights(), wrongs()...) {
		if n := syntax.Deep(x); n != deep(x) {
			t.Fatalf("Deep(%v): %d, not %d", x, n, deep(x))
		}
	}
	if n := syntax.Deep(api.Expr{Op: api.OName, S: "a", L: []api.Expr{}}); n != 1 {
		t.Error("Deep with an empty list", n)
	}
}

// P14.1: names, each where it stands first, of what is right and of what is not.
func TestNames(t *testing.T) {
	a, b, c := name("a"), name("b"), name("c")
	for _, x := range []struct {
		x    api.Expr
		want string
	}{
		{number(1), ""}, {text("a"), ""}, {a, "a"}, {add(b, a), "b a"}, {add(add(b, a), b), "b a"}, {cond(c, neg(b), add(b, a)), "c b a"}, {add(neg(neg(c)), a), "c a"},
		{api.Expr{Op: api.OName, S: "x", L: []api.Expr{a, {Op: api.OName, S: "y", L: []api.Expr{b}}, c}}, "x a y b c"},
		{api.Expr{Op: api.OName, S: "x", L: []api.Expr{a, {Op: api.OName, S: "x", L: []api.Expr{b}}}}, "x a b"},
		{api.Expr{Op: api.OVal, S: "x", L: []api.Expr{{S: "y"}, {Op: 77, S: "z", L: []api.Expr{{Op: api.ONeg, S: "u", L: []api.Expr{c}}}}}}, "c"},
		{add(name("if"), name("1+")), "if 1+"}, {add(name("A"), a), "A a"},
	} {
		if l := syntax.Names(x.x); strings.Join(l, " ") != x.want || len(l) != len(strings.Fields(x.want)) {
			t.Errorf("Names(%v): %q, not %q", x.x, l, x.want)
		}
	}
	if l := syntax.Names(add(a, name(""))); !slices.Equal(l, []string{"a", ""}) {
		t.Errorf("Names with an empty one: %q", l)
	}
	for _, x := range append(rights(), wrongs()...) {
		if l := syntax.Names(x); !slices.Equal(l, namesOf(nil, x)) {
			t.Fatalf("Names(%v): %q, not %q", x, l, namesOf(nil, x))
		}
	}
}

// P14.1: names come in the order in which they stand, whichever they are, and quickly, too, where there are many.
func TestNamesMany(t *testing.T) {
	r := rand.New(rand.NewSource(5))
	var l []api.Expr
	for range 200000 {
		l = append(l, name(fmt.Sprint("n", r.Intn(100000))))
	}
	first := map[string]bool{}
	var want []string
	for _, x := range l {
		if !first[x.S] {
			first[x.S] = true
			want = append(want, x.S)
		}
	}
	if !slices.Equal(syntax.Names(op(api.OIf, l...)), want) {
		t.Error("Names of many")
	}
}

// copied tells an expression that shares no memory with another one.
func copied(x api.Expr) api.Expr {
	l := make([]api.Expr, 0, len(x.L)+2)
	for _, y := range x.L {
		l = append(l, copied(y))
	}
	x.L = l
	return x
}

// pool tells expressions that are like one another in some.
func pool() []api.Expr {
	a, b := name("a"), name("b")
	l := []api.Expr{
		{}, {S: "a"}, {Op: 1, S: "a"}, {V: api.Value{N: 1}}, {V: api.Value{Kind: api.KInt}}, {V: api.Value{S: "x"}}, {L: []api.Expr{{}}}, {L: []api.Expr{{}, {}}}, {L: []api.Expr{{L: []api.Expr{{}}}}},
		{L: []api.Expr{{L: []api.Expr{{}}}, {}}}, {L: []api.Expr{{}, {L: []api.Expr{{}}}}}, {L: []api.Expr{{}, {}, {}}}, {L: []api.Expr{{L: []api.Expr{{}, {}}}}},
		a, b, add(a, b), add(b, a), add(a, a), op(api.OSub, a, b), neg(a), neg(b), neg(neg(a)), cond(a, b, a), cond(a, b, b), cond(b, b, a), add(add(a, b), a), add(a, add(b, a)),
		{Op: api.OName, S: "a", L: []api.Expr{a}}, number(0), number(1), truth(1), truth(0), text(""), text("1"), val(api.Value{}),
	}
	return append(l, wrongHere()...)
}

// P14.1: Same holds of each expression and its copy, and of no other two.
func TestSame(t *testing.T) {
	l := pool()
	for i, x := range l {
		for j, y := range l {
			if got, want := syntax.Same(x, copied(y)), same(x, y); got != want || i == j && !got {
				t.Fatalf("Same(%v, %v): %t", x, y, got)
			}
		}
	}
	r := rand.New(rand.NewSource(3))
	more := rights()
	for range 20000 {
		x, y := more[r.Intn(len(more))], more[r.Intn(len(more))]
		if syntax.Same(x, y) != same(x, y) || !syntax.Same(x, copied(x)) {
			t.Fatalf("Same(%v, %v)", x, y)
		}
	}
}

// changed tells an expression with one change in one part.
func changed(r *rand.Rand, x api.Expr) api.Expr {
	if len(x.L) > 0 && r.Intn(4) > 0 {
		x = copied(x)
		i := r.Intn(len(x.L))
		x.L[i] = changed(r, x.L[i])
		return x
	}
	switch r.Intn(6) {
	case 0:
		x.Op++
	case 1:
		x.S += "_"
	case 2:
		x.V.N++
	case 3:
		x.V.S += "x"
	case 4:
		x.V.Kind++
	case 5:
		x.L = append(slices.Clone(x.L), api.Expr{})
	}
	return x
}

// P14.1: Same sees each change, however deep.
func TestSameSees(t *testing.T) {
	r := rand.New(rand.NewSource(6))
	for _, x := range rights() {
		if y := changed(r, x); syntax.Same(x, y) || syntax.Same(y, x) {
			t.Fatalf("Same(%v, %v)", x, y)
		}
	}
}

// item is a rule of the grammar that was gone through up to a dot, from a token on.
type item struct{ rule, dot, from int }

// rule is what may be written at a level.
type rule struct {
	level string
	parts []string
}

// grammar tells the chapter's words on levels as rules; v is a value or a name.
func grammar() []rule {
	var l []rule
	for _, s := range []string{
		"0 if 0 then 0 else 0", "0 1", "1 1 or 2", "1 2", "2 2 and 3", "2 3", "3 4 = 4", "3 4 != 4", "3 4 < 4", "3 4 <= 4", "3 4 > 4", "3 4 >= 4", "3 4",
		"4 4 + 5", "4 4 - 5", "4 5", "5 5 * 6", "5 5 / 6", "5 6", "6 - 6", "6 7", "7 v", "7 ( 0 )",
	} {
		f := strings.Fields(s)
		l = append(l, rule{f[0], f[1:]})
	}
	return l
}

// walker tells which tokens go on, by all rules at once: states[n] has what may stand behind n tokens.
type walker struct {
	rules  []rule
	states [][]item
}

// put puts an item, and all that comes of it, to the last state.
func (w *walker) put(i item) {
	n := len(w.states) - 1
	if slices.Contains(w.states[n], i) {
		return
	}
	w.states[n] = append(w.states[n], i)
	if x := w.rules[i.rule]; i.dot < len(x.parts) {
		for k, y := range w.rules {
			if y.level == x.parts[i.dot] {
				w.put(item{k, 0, n})
			}
		}
		return
	}
	for _, j := range slices.Clone(w.states[i.from]) {
		if y := w.rules[j.rule]; j.dot < len(y.parts) && y.parts[j.dot] == w.rules[i.rule].level {
			w.put(item{j.rule, j.dot + 1, j.from})
		}
	}
}

// walk tells a walker that asks for an expression of a level.
func walk(level int) *walker {
	w := &walker{rules: grammar(), states: [][]item{nil}}
	for k, x := range w.rules {
		if x.level == fmt.Sprint(level) {
			w.put(item{k, 0, 0})
		}
	}
	return w
}

// next goes on with a token, if that may stand there.
func (w *walker) next(s string) bool {
	last := w.states[len(w.states)-1]
	w.states = append(w.states, nil)
	for _, i := range last {
		if x := w.rules[i.rule]; i.dot < len(x.parts) && x.parts[i.dot] == s {
			w.put(item{i.rule, i.dot + 1, i.from})
		}
	}
	if len(w.states[len(w.states)-1]) == 0 {
		w.back()
		return false
	}
	return true
}

// back takes the last token back.
func (w *walker) back() {
	w.states = w.states[:len(w.states)-1]
}

// whole tells whether the tokens up to here are an expression of the level.
func (w *walker) whole(level int) bool {
	return slices.ContainsFunc(w.states[len(w.states)-1], func(i item) bool {
		return i.from == 0 && i.dot == len(w.rules[i.rule].parts) && w.rules[i.rule].level == fmt.Sprint(level)
	})
}

// trees tells all expressions that tokens are at a level, by the chapter's words: there is one at most.
func trees(l []string, level int) []api.Expr {
	var all []api.Expr
	for i, s := range l {
		for _, m := range marks() {
			if m.word == s && m.level >= level {
				for _, x := range trees(l[:i], m.left) {
					for _, y := range trees(l[i+1:], m.right) {
						all = append(all, op(m.op, x, y))
					}
				}
			}
		}
	}
	switch n := len(l); {
	case n == 0:
	case n == 1:
		if x, there := singles()[l[0]]; there {
			all = append(all, x)
		}
	case l[0] == "-" && level <= 6:
		for _, x := range trees(l[1:], 6) {
			all = append(all, neg(x))
		}
	case l[0] == "(" && l[n-1] == ")":
		all = append(all, trees(l[1:n-1], 0)...)
	case l[0] == "if" && level == 0:
		for i := 1; i < n; i++ {
			for j := i + 1; j < n && l[i] == "then"; j++ {
				if l[j] != "else" {
					continue
				}
				for _, x := range trees(l[1:i], 0) {
					for _, y := range trees(l[i+1:j], 0) {
						for _, z := range trees(l[j+1:], 0) {
							all = append(all, cond(x, y, z))
						}
					}
				}
			}
		}
	}
	return all
}

// tokens tells words as tokens, with whatever as their places: Read does not ask for these.
func tokens(words ...string) []api.Token {
	l, _, e := lex.Lex(strings.Join(words, " "))
	if e != api.OK {
		panic("no tokens")
	}
	for i := range l {
		l[i].At = 1000 - 7*i
	}
	return l
}

// reads holds an answer of Read against what the rules tell.
func reads(t *testing.T, l []string, level int, wantPart []string, want int, wantErr api.Errno) {
	t.Helper()
	for _, ahead := range [][]string{nil, {"a"}, {"(", "-", "if"}} {
		from := len(ahead)
		x, n, e := syntax.Read(tokens(append(slices.Clone(ahead), l...)...), from, level)
		ok := n == want+from && e == wantErr
		if wantErr == api.OK {
			all := trees(wantPart, level)
			ok = ok && len(all) == 1 && same(x, all[0])
		} else {
			ok = ok && same(x, api.Expr{})
		}
		if !ok {
			t.Fatalf("Read(%q behind %q, %d): %v, %d, %d, not %d, %d", l, ahead, level, x, n, int(e), want, int(wantErr))
		}
	}
}

// P14.2: all ways in which so many tokens, and one that does not go on, or the end, may stand; read at each level.
func readAll(t *testing.T, words string, most int) {
	vocabulary := strings.Fields(words)
	for level := range 8 {
		w, l := walk(level), []string{}
		var further func()
		further = func() {
			n, e := len(l), api.ErrSyntax
			if w.whole(level) {
				e = api.OK
			}
			reads(t, l, level, l, n, e)
			for i, s := range vocabulary {
				terminal := s
				if _, there := singles()[s]; there {
					terminal = "v"
				}
				if !w.next(terminal) {
					reads(t, append(slices.Clone(l), s), level, l, n, e)
					reads(t, append(slices.Clone(l), s, vocabulary[(i+n)%len(vocabulary)], "a"), level, l, n, e)
				} else {
					if l = append(l, s); len(l) <= most {
						further()
					}
					l = l[:n]
					w.back()
				}
			}
		}
		further()
	}
}

// P14.2: all short rows of tokens of all kinds.
func TestReadShort(t *testing.T) {
	readAll(t, `a 7 null "if" + - * / = != < <= > >= and or if then else ( ) not , .. [ ]`, 2)
	readAll(t, "a + - * < and or if then else ( ) not ..", 3)
}

// P14.2: longer rows of few tokens.
func TestReadLonger(t *testing.T) {
	readAll(t, "a - < )", 7)
	readAll(t, "a + < ( )", 6)
	readAll(t, "a if then else or", 7)
	readAll(t, "a and - ( if then )", 5)
}

// P14.2: how far tokens are read at each level.
func TestReadLevels(t *testing.T) {
	l := tokens(strings.Fields("- a * b + c < d and e or f ) g")...)
	for level, want := range []int{12, 12, 10, 8, 6, 4, 2, 0} {
		x, n, e := syntax.Read(l, 0, level)
		if wantErr := map[bool]api.Errno{true: api.ErrSyntax}[level == 7]; n != want || e != wantErr || (e == api.OK) != (syntax.Check(x) == api.OK) {
			t.Errorf("Read at level %d: %v, %d, %d", level, x, n, int(e))
		}
	}
	l = tokens(strings.Fields("( if a then b else c ) + 1")...)
	for level := range 8 {
		x, n, e := syntax.Read(l, 0, level)
		want, deep := 10, add(cond(name("a"), name("b"), name("c")), number(1))
		if level > 4 {
			want, deep = 8, deep.L[0]
		}
		if n != want || e != api.OK || !same(x, deep) {
			t.Errorf("Read at level %d: %v, %d, %d", level, x, n, int(e))
		}
	}
	for level := range 8 {
		for s, want := range map[string]int{"if a then b else c": 0, "- a": 6, "a or b": 7} {
			_, n, e := syntax.Read(tokens(strings.Fields(s)...), 0, level)
			if ok := n > 0 && e == api.OK; ok != (level <= want) || !ok && (n != 0 || e != api.ErrSyntax) {
				t.Errorf("Read(%q, %d): %d, %d", s, level, n, int(e))
			}
		}
	}
}

// P14.2: what is no place among tokens, and no level; behind the last token more is asked for.
func TestReadRefuses(t *testing.T) {
	l := tokens("a", "+", "b")
	for _, from := range []int{-1, 4, 5, 1000, math.MinInt, math.MaxInt} {
		for _, level := range []int{0, 7, -1, 8} {
			if x, n, e := syntax.Read(l, from, level); !same(x, api.Expr{}) || n != 0 || e != api.ErrArg {
				t.Errorf("Read from %d, at %d: %v, %d, %d", from, level, x, n, int(e))
			}
		}
	}
	for _, level := range []int{-1, 8, 9, math.MinInt, math.MaxInt} {
		for from := range 4 {
			if x, n, e := syntax.Read(l, from, level); !same(x, api.Expr{}) || n != 0 || e != api.ErrArg {
				t.Errorf("Read from %d, at %d: %v, %d, %d", from, level, x, n, int(e))
			}
		}
	}
	for level := range 8 {
		if x, n, e := syntax.Read(l, 3, level); !same(x, api.Expr{}) || n != 3 || e != api.ErrSyntax {
			t.Errorf("Read from the end: %v, %d, %d", x, n, int(e))
		}
		if x, n, e := syntax.Read(nil, 0, level); !same(x, api.Expr{}) || n != 0 || e != api.ErrSyntax {
			t.Errorf("Read of nothing: %v, %d, %d", x, n, int(e))
		}
	}
	if _, n, e := syntax.Read(nil, 1, 0); n != 0 || e != api.ErrArg {
		t.Error("Read of nothing from 1", n, int(e))
	}
}

// P14.2: each single token is read as the value or name that it is, and no other one.
func TestReadSingles(t *testing.T) {
	for s, want := range singles() {
		for level := range 8 {
			if x, n, e := syntax.Read(tokens(s), 0, level); !same(x, want) || n != 1 || e != api.OK {
				t.Errorf("Read(%s, %d): %v, %d, %d", s, level, x, n, int(e))
			}
		}
	}
	for _, s := range strings.Fields("and or not then else ) [ ] , + * / = < > .. != <= >=") {
		for level := range 8 {
			if x, n, e := syntax.Read(tokens(s, "a"), 0, level); !same(x, api.Expr{}) || n != 0 || e != api.ErrSyntax {
				t.Errorf("Read(%s, %d): %v, %d, %d", s, level, x, n, int(e))
			}
		}
	}
}

// P14.2: tokens behind the list's end are not read, and no token is turned; of tokens that are none there is an end.
func TestReadTokens(t *testing.T) {
	room := tokens("a", "+", "b", "*", "c", ")")
	ahead := slices.Clone(room)
	if x, n, e := syntax.Read(room[:3], 0, 0); !same(x, add(name("a"), name("b"))) || n != 3 || e != api.OK {
		t.Error("Read of a part of a list", x, n, int(e))
	}
	if _, n, e := syntax.Read(room[:2], 0, 0); n != 2 || e != api.ErrSyntax {
		t.Error("Read of a part of a list", n, int(e))
	}
	if !slices.Equal(room, ahead) {
		t.Error("Read has changed the tokens")
	}
	kinds := []api.TokKind{-1, 0, api.TName, api.TInt, api.TText, api.TMark, 5}
	texts := []string{"", "a", "+", "(", ")", "if", "then", "else", "-", "and", "1", "null", strings.Repeat("x", 50)}
	r := rand.New(rand.NewSource(8))
	for range 50000 {
		var l []api.Token
		for range r.Intn(9) {
			l = append(l, api.Token{Kind: kinds[r.Intn(len(kinds))], S: texts[r.Intn(len(texts))], N: r.Intn(3) - 1})
		}
		syntax.Read(l, r.Intn(len(l)+1), r.Intn(8))
	}
}

// P14.2: a text that looks like a word or mark is a text.
func TestReadTexts(t *testing.T) {
	for _, s := range strings.Fields("+ - ( ) if then else and or null true not") {
		quoted := `"` + s + `"`
		reads(t, []string{"a", quoted, "b"}, 0, []string{"a"}, 1, api.OK)
		reads(t, []string{"(", "a", quoted}, 0, nil, 2, api.ErrSyntax)
		reads(t, []string{"if", "a", quoted}, 0, nil, 2, api.ErrSyntax)
		if x, n, e := syntax.Read(tokens(quoted, "+", quoted), 0, 0); !same(x, add(text(s), text(s))) || n != 3 || e != api.OK {
			t.Errorf("Read of %s: %v, %d, %d", quoted, x, n, int(e))
		}
	}
}

// P14.3: texts, and what they are.
func TestParse(t *testing.T) {
	a, b, c, d := name("a"), name("b"), name("c"), name("d")
	for s, want := range map[string]api.Expr{
		"a-(b-c)*2": op(api.OSub, a, op(api.OMul, op(api.OSub, b, c), number(2))), "a - b - c": op(api.OSub, op(api.OSub, a, b), c), "a/b*c": op(api.OMul, op(api.ODiv, a, b), c),
		"a or b and c = d": op(api.OOr, a, op(api.OAnd, b, op(api.OEq, c, d))), "a<b and c": op(api.OAnd, op(api.OLt, a, b), c), "(a<b)<c": op(api.OLt, op(api.OLt, a, b), c), "a<(b<c)": op(api.OLt, a, op(api.OLt, b, c)),
		"-a*b": op(api.OMul, neg(a), b), "-(a*b)": neg(op(api.OMul, a, b)), "--5": neg(neg(number(5))), "a--b": op(api.OSub, a, neg(b)), "a*-b": op(api.OMul, a, neg(b)), "-5": neg(number(5)),
		"if a then b else c or d": cond(a, b, op(api.OOr, c, d)), "(if a then b else c)or d": op(api.OOr, cond(a, b, c), d), "if a then b else if b then c else d": cond(a, b, cond(b, c, d)),
		"if if a then b else c then d else a": cond(cond(a, b, c), d, a), "if a then if b then c else d else a": cond(a, cond(b, c, d), a), "a!=b": op(api.ONe, a, b), "a>=b": op(api.OGe, a, b), "a<=b": op(api.OLe, a, b), "a>b": op(api.OGt, a, b),
		"  ( ( a ) )  ": a, "null = true": op(api.OEq, val(api.Value{}), truth(1)), `"a"+"\""`: add(text("a"), text(`"`)), "true and false": op(api.OAnd, truth(1), truth(0)),
	} {
		if x, place, e := syntax.Parse(s); !same(x, want) || place != 0 || e != api.OK {
			t.Errorf("Parse(%q): %v, %d, %d", s, x, place, int(e))
		}
	}
	for s, want := range singles() {
		if x, place, e := syntax.Parse(" (" + s + " )"); !same(x, want) || place != 0 || e != api.OK {
			t.Errorf("Parse of %s: %v, %d, %d", s, x, place, int(e))
		}
	}
}

// P14.3: expressions, written with more blanks and ( ) than need be, are read.
func TestParseLoose(t *testing.T) {
	r := rand.New(rand.NewSource(9))
	count := 0
	for range 20000 {
		x := grow(r, leaves(), 1+r.Intn(6))
		s := loose(r, x, 0)
		if len(s) > mostSource {
			continue
		}
		count++
		if y, place, e := syntax.Parse(s); !same(x, y) || place != 0 || e != api.OK {
			t.Fatalf("Parse(%q): %v, %d, %d", s, y, place, int(e))
		}
	}
	if count < 5000 {
		t.Error("too few texts were asked", count)
	}
}

// P14.3: errors and their places: lex's ahead of all, then what does not go on, then what is too deep.
func TestParseRefuses(t *testing.T) {
	long := strings.Repeat("q", 17)
	for _, x := range []struct {
		s    string
		want int
		e    api.Errno
	}{
		{"", 0, api.ErrSyntax}, {"   ", 3, api.ErrSyntax}, {"a+", 2, api.ErrSyntax}, {"a+  ", 4, api.ErrSyntax}, {"a<b<c", 3, api.ErrSyntax}, {"a < b + c = d", 10, api.ErrSyntax}, {"a  b", 3, api.ErrSyntax}, {"a )", 2, api.ErrSyntax}, {"a not", 2, api.ErrSyntax}, {"a .. b", 2, api.ErrSyntax}, {"a , b", 2, api.ErrSyntax},
		{"(a", 2, api.ErrSyntax}, {"(a]", 2, api.ErrSyntax}, {"( )", 2, api.ErrSyntax}, {" not a", 1, api.ErrSyntax}, {"a or not b", 5, api.ErrSyntax}, {"if", 2, api.ErrSyntax}, {"if a", 4, api.ErrSyntax}, {"if a else b", 5, api.ErrSyntax}, {"if a then b then c", 12, api.ErrSyntax}, {"if a then b else ", 17, api.ErrSyntax},
		{"a or if b then c else d", 5, api.ErrSyntax}, {"-if a then b else c", 1, api.ErrSyntax}, {"a + * b", 4, api.ErrSyntax}, {"(a + b", 6, api.ErrSyntax}, {"((a)", 4, api.ErrSyntax}, {"(a))", 3, api.ErrSyntax}, {"1 1", 2, api.ErrSyntax}, {`"a" "b"`, 4, api.ErrSyntax}, {"then", 0, api.ErrSyntax}, {"a+-", 3, api.ErrSyntax},
		{"a b !", 4, api.ErrSyntax}, {"a b 01", 4, api.ErrSyntax}, {`) "a`, 2, api.ErrSyntax}, {"a a 9223372036854775808", 4, api.ErrOver}, {"9223372036854775808", 0, api.ErrOver}, {"-9223372036854775808", 1, api.ErrOver}, {"a + " + long, 4, api.ErrBig}, {"a ) " + long, 4, api.ErrBig}, {`a b "` + strings.Repeat("x", 41) + `"`, 4, api.ErrBig},
		{strings.Repeat(" ", 201), 0, api.ErrBig}, {"a" + strings.Repeat(" ", 200), 0, api.ErrBig}, {"!" + strings.Repeat(" ", 200), 0, api.ErrBig}, {strings.Repeat("-", 12) + "a", 0, api.ErrDeep}, {strings.Repeat("-", 12) + "a b", 14, api.ErrSyntax}, {strings.Repeat("-", 12), 12, api.ErrSyntax}, {strings.Repeat("-", 199) + "a", 0, api.ErrDeep},
		{"a" + strings.Repeat("+a", 12), 0, api.ErrDeep}, {strings.Repeat("(", 100) + "a" + strings.Repeat(")", 99), 200, api.ErrSyntax}, {strings.Repeat("(", 200), 200, api.ErrSyntax}, {strings.Repeat("if a then ", 20), 200, api.ErrSyntax},
	} {
		if y, place, e := syntax.Parse(x.s); !same(y, api.Expr{}) || place != x.want || e != x.e {
			t.Errorf("Parse(%q): %v, %d, %d, not %d, %d", x.s, y, place, int(e), x.want, int(x.e))
		}
	}
}

// P14.3: where tokens go wrong, told in texts' places.
func TestParsePlaces(t *testing.T) {
	r := rand.New(rand.NewSource(10))
	words := strings.Fields("a 7 a null + - * < = and or if then else ( ) ( ) not ..")
	has := map[api.Errno]int{}
	for range 50000 {
		var b strings.Builder
		for range r.Intn(12) {
			b.WriteString(words[r.Intn(len(words))] + strings.Repeat(" ", 1+r.Intn(3)))
		}
		s := b.String()
		l, _, _ := lex.Lex(s)
		x, n, e := syntax.Read(l, 0, 0)
		place := len(s)
		if n < len(l) {
			x, e, place = api.Expr{}, api.ErrSyntax, l[n].At
		} else if e == api.OK {
			place = 0
		}
		has[e]++
		if y, p, f := syntax.Parse(s); !same(x, y) || p != place || f != e {
			t.Fatalf("Parse(%q): %v, %d, %d, not %d, %d", s, y, p, int(f), place, int(e))
		}
	}
	if has[api.OK] < 500 || has[api.ErrSyntax] < 500 {
		t.Error("too few texts of a kind", has)
	}
}

// P14.3, P14.4: what is 12 deep is read and written; what is deeper is not.
func TestDeepest(t *testing.T) {
	for n := mostDeep - 1; n <= mostDeep+2; n++ {
		count := 0
		for _, x := range chains(n) {
			s, _ := write(x)
			if len(s) > mostSource {
				continue
			}
			count++
			y, place, e := syntax.Parse(s)
			u, f := syntax.Text(x)
			if n <= mostDeep {
				if !same(x, y) || place != 0 || e != api.OK || u != s || f != api.OK {
					t.Fatalf("%q: %v, %d, %d; %q, %d", s, y, place, int(e), u, int(f))
				}
			} else if !same(y, api.Expr{}) || place != 0 || e != api.ErrDeep || u != "" || f != api.ErrDeep {
				t.Fatalf("%q: %v, %d, %d; %q, %d", s, y, place, int(e), u, int(f))
			}
		}
		if count < 10 {
			t.Error("too few expressions of this depth", n, count)
		}
	}
}

// P14.4: texts of all that can be written.
func TestText(t *testing.T) {
	for want, x := range singles() {
		if s, e := syntax.Text(x); s != want || e != api.OK {
			t.Errorf("Text(%v): %q, %d", x, s, int(e))
		}
	}
	a, b, c := name("a"), name("b"), cond(name("a"), name("b"), name("c"))
	for want, x := range map[string]api.Expr{
		"a - (b - c) * 2": op(api.OSub, a, op(api.OMul, op(api.OSub, b, name("c")), number(2))), "(if a then b else c) = (if a then b else c)": op(api.OEq, c, c), "-(if a then b else c)": neg(c), "if if a then b else c then if a then b else c else if a then b else c": cond(c, c, c),
		"(a < b) = (a < b)": op(api.OEq, op(api.OLt, a, b), op(api.OLt, a, b)), "a + b < a * b": op(api.OLt, add(a, b), op(api.OMul, a, b)), "---a": neg(neg(neg(a))), "-5 - -5": op(api.OSub, neg(number(5)), neg(number(5))), "-(a + b) * a": op(api.OMul, neg(add(a, b)), a), `"a" + null`: add(text("a"), val(api.Value{})),
		"(a or b) and (a or b)": op(api.OAnd, op(api.OOr, a, b), op(api.OOr, a, b)), "a and b or a and b": op(api.OOr, op(api.OAnd, a, b), op(api.OAnd, a, b)), "a / b / (a / b)": op(api.ODiv, op(api.ODiv, a, b), op(api.ODiv, a, b)), "a != b or a >= b": op(api.OOr, op(api.ONe, a, b), op(api.OGe, a, b)),
	} {
		if s, e := syntax.Text(x); s != want || e != api.OK {
			t.Errorf("Text(%v): %q, %d, not %q", x, s, int(e), want)
		}
	}
	count := 0
	for _, x := range rights() {
		want, _ := write(x)
		e := api.OK
		switch {
		case deep(x) > mostDeep:
			want, e = "", api.ErrDeep
		case len(want) > mostSource:
			want, e = "", api.ErrBig
		default:
			count++
		}
		if s, f := syntax.Text(x); s != want || f != e {
			t.Fatalf("Text(%v): %q, %d, not %q, %d", x, s, int(f), want, int(e))
		}
	}
	if count < 500 {
		t.Error("too few texts were asked", count)
	}
}

// P14.4: each op, as a part of each op, on each side.
func TestTextPairs(t *testing.T) {
	a := name("a")
	l := []api.Expr{a, neg(a), cond(a, a, a)}
	for _, m := range marks() {
		l = append(l, op(m.op, a, number(1)))
	}
	for _, x := range l {
		all := []api.Expr{neg(x), cond(x, a, a), cond(a, x, a), cond(a, a, x)}
		for _, m := range marks() {
			all = append(all, op(m.op, x, a), op(m.op, a, x), op(m.op, x, x), neg(op(m.op, x, neg(x))))
		}
		for _, y := range all {
			want, _ := write(y)
			if s, e := syntax.Text(y); s != want || e != api.OK {
				t.Errorf("Text(%v): %q, %d, not %q", y, s, int(e), want)
			}
			if z, place, e := syntax.Parse(want); !same(y, z) || place != 0 || e != api.OK {
				t.Errorf("Parse(%q): %v, %d, %d", want, z, place, int(e))
			}
		}
	}
}

// P14.4: without a pair of ( ) a text is another expression's, or none's.
func TestTextBrackets(t *testing.T) {
	count := 0
	for _, x := range rights() {
		s, e := syntax.Text(x)
		if e != api.OK || strings.Contains(s, `"`) {
			continue
		}
		var open []int
		for i, c := range s {
			switch c {
			case '(':
				open = append(open, i)
			case ')':
				from := open[len(open)-1]
				open = open[:len(open)-1]
				less := s[:from] + s[from+1:i] + s[i+1:]
				if y, _, _ := syntax.Parse(less); same(x, y) {
					t.Fatalf("%q is %q, too", less, s)
				}
				count++
			}
		}
	}
	if count < 500 {
		t.Error("too few ( ) were asked", count)
	}
}

// sized tells a sum of 12 names whose text has that many bytes.
func sized(bytes int) api.Expr {
	const count = 12
	left := bytes - (count-1)*len(" + ")
	var x api.Expr
	for i := range count {
		// What is left is shared out among the names that are to come.
		n := left / (count - i)
		left -= n
		if y := name(strings.Repeat("q", n)); i == 0 {
			x = y
		} else {
			x = add(x, y)
		}
	}
	return x
}

// P14.4: texts of 200 bytes, and of more.
func TestTextBig(t *testing.T) {
	for n := 60; n <= 225; n++ {
		x := sized(n)
		want, _ := write(x)
		if len(want) != n || deep(x) > mostDeep {
			t.Fatalf("an expression of %d bytes has %d", n, len(want))
		}
		e := api.OK
		if n > mostSource {
			want, e = "", api.ErrBig
		}
		if s, f := syntax.Text(x); s != want || f != e {
			t.Errorf("Text of %d bytes: %q, %d", n, s, int(f))
		}
	}
	big := text(strings.Repeat(`"`, mostText))
	for range mostDeep - 1 {
		big = cond(big, big, big)
	}
	if s, e := syntax.Text(big); s != "" || e != api.ErrBig {
		t.Error("Text of much", len(s), int(e))
	}
	if s, e := syntax.Text(neg(big)); s != "" || e != api.ErrDeep {
		t.Error("Text of much that is too deep", len(s), int(e))
	}
}

// P14.4: what is not right has no text, however deep or long it is.
func TestTextRefuses(t *testing.T) {
	for _, x := range wrongs() {
		if s, e := syntax.Text(x); s != "" || e != api.ErrArg {
			t.Errorf("Text(%v): %q, %d", x, s, int(e))
		}
	}
}

// P14.5: what is written is read; what is read, and can be written, is read again from that.
func TestBack(t *testing.T) {
	count := 0
	for _, x := range rights() {
		s, e := syntax.Text(x)
		if e != api.OK {
			continue
		}
		count++
		if y, place, e := syntax.Parse(s); !same(x, y) || place != 0 || e != api.OK || !syntax.Same(x, y) {
			t.Fatalf("Parse(%q): %v, %d, %d", s, y, place, int(e))
		}
	}
	r := rand.New(rand.NewSource(11))
	for range 5000 {
		x, _, e := syntax.Parse(loose(r, grow(r, leaves(), 5), 0))
		if e != api.OK {
			continue
		}
		s, e := syntax.Text(x)
		if e != api.OK {
			continue
		}
		count++
		if y, _, e := syntax.Parse(s); e != api.OK || !syntax.Same(x, y) {
			t.Fatalf("Parse(%q): %v, %d, not %v", s, y, int(e), x)
		}
	}
	if count < 2000 {
		t.Error("too few expressions were asked", count)
	}
	// What is read may be too long to be written.
	x, _, e := syntax.Parse("a" + strings.Repeat("+aaaaaaaaaaaaaaaa", 11))
	if _, f := syntax.Text(x); e != api.OK || f != api.ErrBig {
		t.Error("a text that grows", int(e), int(f))
	}
}

// All calls leave what they are given as it was, and their answers are new.
func TestOwn(t *testing.T) {
	x := cond(add(name("a"), number(1)), neg(name("b")), name("a"))
	ahead := copied(x)
	syntax.Check(x)
	syntax.Deep(x)
	syntax.Text(x)
	syntax.Same(x, ahead)
	l := syntax.Names(x)
	clear(l)
	if !same(x, ahead) || !slices.Equal(syntax.Names(x), []string{"a", "b"}) {
		t.Error("an expression was changed")
	}
	s := "if a + 1 then -b else a"
	first, _, _ := syntax.Parse(s)
	second, _, _ := syntax.Parse(s)
	first.L[0].L[0] = name("x")
	_ = append(first.L, name("y"))
	_ = append(first.L[0].L, name("z"))
	if !same(second, x) {
		t.Error("two answers share memory")
	}
	second.L[0].L = append(second.L[0].L, name("z"))
	if !same(second.L[1], x.L[1]) || !same(second.L[2], x.L[2]) {
		t.Error("two lists of one answer share memory")
	}
	if x.L[0].L = x.L[0].L[:1]; syntax.Check(x) != api.ErrArg || len(x.L[0].L[:2]) != 2 || !same(x.L[0].L[:2][1], number(1)) {
		t.Error("what stands behind a list's end was read, or changed")
	}
}

// repeated tells tokens, many times.
func repeated(n int, words ...string) []api.Token {
	return slices.Repeat(tokens(words...), n)
}

// P14.2: however much tokens hold within one another, they are read.
func TestReadMuch(t *testing.T) {
	const n = 100000
	a := tokens("a")
	for i, x := range []struct {
		l    []api.Token
		want int
		e    api.Errno
		deep int
	}{
		{slices.Concat(repeated(n, "("), a, repeated(n, ")")), 2*n + 1, api.OK, 1}, {slices.Concat(repeated(n, "("), a, repeated(n-1, ")")), 2 * n, api.ErrSyntax, 1}, {repeated(n, "("), n, api.ErrSyntax, 1},
		{slices.Concat(repeated(n, "-"), a), n + 1, api.OK, n + 1}, {slices.Concat(a, repeated(n, "+", "a")), 2*n + 1, api.OK, n + 1}, {slices.Concat(repeated(n, "(", "-"), a, repeated(n, ")")), 3*n + 1, api.OK, n + 1},
		{slices.Concat(repeated(n, "a", "+", "("), a, repeated(n, ")")), 4*n + 1, api.OK, n + 1}, {slices.Concat(repeated(n, "if", "a", "then"), a, repeated(n, "else", "a")), 5*n + 1, api.OK, n + 1}, {slices.Concat(repeated(n, "if"), a, repeated(n, "then", "a", "else", "a")), 5*n + 1, api.OK, n + 1},
		{slices.Concat(repeated(n, "if", "a", "then", "a", "else"), a), 5*n + 1, api.OK, n + 1}, {repeated(n, "if", "a", "then", "a", "else"), 5 * n, api.ErrSyntax, 1},
	} {
		y, got, e := syntax.Read(x.l, 0, 0)
		if got != x.want || e != x.e || syntax.Deep(y) != x.deep {
			t.Errorf("Read of much, %d: %d, %d, %d", i, got, int(e), syntax.Deep(y))
		}
		if z, _, _ := syntax.Read(x.l, 0, 0); !syntax.Same(y, z) || e == api.OK && (syntax.Check(y) != api.OK || !slices.Equal(syntax.Names(y), []string{"a"})) {
			t.Errorf("what was read of much, %d", i)
		}
		if _, f := syntax.Text(y); e == api.OK && x.deep > 1 && f != api.ErrDeep {
			t.Errorf("Text of much, %d: %d", i, int(f))
		}
	}
}

// P14.1: all calls end, however deep and wide an expression is.
func TestMuch(t *testing.T) {
	const n = 200000
	x, y, wide := name("a"), api.Expr{}, op(api.OAdd, slices.Repeat([]api.Expr{name("a")}, n)...)
	for range n {
		x, y = neg(x), api.Expr{Op: api.OVal, L: []api.Expr{y}}
	}
	if syntax.Deep(x) != n+1 || syntax.Check(x) != api.OK || !slices.Equal(syntax.Names(x), []string{"a"}) || !syntax.Same(x, x) || syntax.Same(x, neg(x)) || syntax.Same(neg(x), x) {
		t.Error("of a deep one")
	}
	if syntax.Deep(y) != n+1 || syntax.Check(y) != api.ErrArg || len(syntax.Names(y)) != 0 || syntax.Same(x, y) {
		t.Error("of a deep one that is not right")
	}
	if syntax.Deep(wide) != 2 || syntax.Check(wide) != api.ErrArg || len(syntax.Names(wide)) != 1 || !syntax.Same(wide, wide) {
		t.Error("of a wide one")
	}
}

// endless tells an expression with lists of which each holds the next one, and the last one one of them again.
func endless(count, back int) api.Expr {
	l := make([][]api.Expr, count)
	for i := range l {
		l[i] = make([]api.Expr, 2)
	}
	for i := range l {
		next := i + 1
		if next == count {
			next = back
		}
		l[i][i%2] = name(fmt.Sprint("n", i))
		l[i][1-i%2] = op(api.OAdd, l[next]...)
	}
	return op(api.OAdd, l[0]...)
}

// P14.1, P14.4: an expression that holds itself is never right, and all calls end.
func TestEndless(t *testing.T) {
	for count := 1; count < 12; count++ {
		for back := range count {
			x := endless(count, back)
			if e := syntax.Check(x); e != api.ErrArg {
				t.Errorf("Check of %d, back at %d: %d", count, back, int(e))
			}
			if s, e := syntax.Text(neg(x)); s != "" || e != api.ErrArg {
				t.Errorf("Text of %d, back at %d: %q, %d", count, back, s, int(e))
			}
			syntax.Deep(x)
			syntax.Names(x)
			syntax.Same(x, endless(count, 0))
		}
	}
	both := make([]api.Expr, 2)
	both[0], both[1] = op(api.OAdd, both...), op(api.OAdd, both...)
	if e := syntax.Check(both[0]); e != api.ErrArg {
		t.Error("Check of a list that is twice in itself", int(e))
	}
	// A list that stands at several places, but not within itself, is as any other.
	twice := []api.Expr{name("a"), name("b")}
	for range 6 {
		twice = []api.Expr{op(api.OAdd, twice...), op(api.OAdd, twice...)}
	}
	if x := op(api.OOr, twice...); syntax.Check(x) != api.OK || syntax.Deep(x) != 8 || !syntax.Same(x, copied(x)) {
		t.Error("of a list at several places")
	}
}
