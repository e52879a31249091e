package lex_test

import (
	"fmt"
	"math"
	"math/big"
	"math/rand"
	"regexp"
	"slices"
	"strings"
	"testing"

	"decretal/api"
	"decretal/lex"
)

const (
	mostName   = 16
	mostText   = 40
	mostSource = 200
)

func name(s string) api.Token { return api.Token{Kind: api.TName, S: s} }
func number(n int) api.Token  { return api.Token{Kind: api.TInt, N: n} }
func text(s string) api.Token { return api.Token{Kind: api.TText, S: s} }
func mark(s string) api.Token { return api.Token{Kind: api.TMark, S: s} }

// at tells a token that begins there.
func at(i int, t api.Token) api.Token {
	t.At = i
	return t
}

// marks tells all marks, in the chapter's order.
func marks() []string {
	return strings.Fields("( ) [ ] , + - * / = < > .. != <= >=")
}

// words tells all reserved words.
func words() []string {
	return strings.Fields("and or not if then else true false null")
}

// names tells names that are not reserved.
func names() []string {
	l := []string{
		"_", "__", "_0", "a0", "A9", "x_1", "iff", "an", "nulls", "_if", "if_", "not1", "And", "NULL", "Or", "tRue", "falsetrue",
		strings.Repeat("q", mostName-1), strings.Repeat("q", mostName), strings.Repeat("_", mostName), "a" + strings.Repeat("9", mostName-1), "AZaz_0189",
	}
	for c := 'a'; c <= 'z'; c++ {
		l = append(l, string(c), string(c-32), "_"+string(c), "x"+string(c-32))
	}
	for c := '0'; c <= '9'; c++ {
		l = append(l, "b"+string(c), "_"+string(c)+"_")
	}
	return l
}

// wrongNames tells texts that are no names.
func wrongNames() []string {
	l := []string{
		"", "1", "0a", "9_", "a b", " a", "a ", "a.b", "a-b", "-a", "a\x00", "\u00e9", "a\u00e9", "\u0430", "a\u0663", "\"a\"", "a\n", "if else", "not(",
		strings.Repeat("q", mostName+1), strings.Repeat("_", 200), strings.Repeat("q", 100000), "a" + strings.Repeat("0", mostName),
	}
	inName := regexp.MustCompile(`\A[A-Za-z0-9_]\z`)
	for b := range 256 {
		c := string([]byte{byte(b)})
		if !inName.MatchString(c) {
			l = append(l, c, "a"+c, c+"a", "a"+c+"a")
		}
	}
	return append(l, marks()...)
}

// texts tells what a token that is a text may be.
func texts() []string {
	l := []string{
		"", "a", "not", "< 5", "a b", "  ", "..", "\"\"", "\\\\", "\\\"", "\"\\", "a\\\"b", "\\n",
		strings.Repeat("x", mostText-1), strings.Repeat("x", mostText),
		strings.Repeat("\"", mostText), strings.Repeat("\\", mostText), strings.Repeat("~", mostText), strings.Repeat(" ", mostText),
	}
	for b := 32; b <= 126; b++ {
		s := string(rune(b))
		l = append(l, s, s+s, "a"+s, s+"a")
	}
	return l
}

// wrongTexts tells what no such token may be.
func wrongTexts() []string {
	l := []string{
		strings.Repeat("x", mostText+1), strings.Repeat("\"", mostText+1), strings.Repeat("x", 100000), strings.Repeat("x", mostText-1) + "\t",
		"\u00e9", "a\u20acb", "\ufffd", "\u0141", "\u00ff",
	}
	for b := range 256 {
		if s := string([]byte{byte(b)}); b < 32 || b > 126 {
			l = append(l, s, "a"+s, s+"a")
		}
	}
	return l
}

// numbers tells numbers that tokens may be, the ends among them.
func numbers() []int {
	l := []int{0, math.MaxInt, math.MaxInt - 1}
	for i := range 62 {
		l = append(l, 1<<i, 1<<i+1)
	}
	for n := 10; n < math.MaxInt/10; n *= 10 {
		l = append(l, n-1, n, n+1)
	}
	return l
}

// quoted tells how a text is written by the chapter's words.
func quoted(s string) string {
	return "\"" + strings.NewReplacer("\"", "\\\"", "\\", "\\\\").Replace(s) + "\""
}

// written is a token, and what it is written as.
type written struct {
	token api.Token
	text  string
}

// tokens tells tokens of all kinds.
func tokens() []written {
	var l []written
	for _, s := range append(names(), words()...) {
		l = append(l, written{name(s), s})
	}
	for _, s := range marks() {
		l = append(l, written{mark(s), s})
	}
	for _, n := range numbers() {
		l = append(l, written{number(n), fmt.Sprint(n)})
	}
	for _, s := range texts() {
		l = append(l, written{text(s), quoted(s)})
	}
	return l
}

// wrongs tells tokens that are none.
func wrongs() []api.Token {
	l := []api.Token{
		{}, {N: 1}, {S: "a"}, {S: "("}, {S: "\"a\""}, {N: 1, S: "1"},
		{Kind: api.TInt, S: "1"}, {Kind: api.TInt, N: 1, S: "1"}, {Kind: api.TInt, N: 1, S: "a"}, {Kind: api.TInt, S: " "},
		{Kind: api.TName, S: "a", N: 1}, {Kind: api.TName, S: "and", N: -1}, {Kind: api.TName, N: 1},
		{Kind: api.TText, S: "a", N: 1}, {Kind: api.TText, N: 1}, {Kind: api.TText, S: "a", N: -1},
		{Kind: api.TMark, S: "(", N: 1}, {Kind: api.TMark, N: 1}, {Kind: api.TMark, S: "<=", N: math.MinInt},
	}
	for _, s := range wrongNames() {
		l = append(l, name(s))
	}
	for _, s := range wrongTexts() {
		l = append(l, text(s))
	}
	for _, s := range append(names(), "", ".", "!", "...", "<=>", "< =", "<<", "==", "=<", "=>", " (", "( ", "()", "1", "-1", "&", "{", "\"", "\"a\"", ". .", "\u2264") {
		l = append(l, mark(s))
	}
	for _, n := range numbers() {
		l = append(l, number(-n-1))
	}
	for _, k := range []int{math.MinInt, -1, 0, 5, 1 << 8, 1<<32 + 1, 1<<32 + 2, 1<<8 + 3, math.MaxInt} {
		for _, t := range []api.Token{name("a"), number(7), text("a"), mark("("), text(""), mark(".."), name("null")} {
			t.Kind = api.TokKind(k)
			l = append(l, t)
		}
	}
	return l
}

// shapes tells how names, numbers, texts and marks are written, whatever their bounds are.
type shapes struct{ name, number, text, mark *regexp.Regexp }

func shapesOf() shapes {
	return shapes{
		name:   regexp.MustCompile(`\A[A-Za-z_][A-Za-z_0-9]*`),
		number: regexp.MustCompile(`\A[0-9]+`),
		text:   regexp.MustCompile(`\A"(?:[ !#-\[\]-~]|\\["\\])*"`),
		mark:   regexp.MustCompile(`\A(?:\.\.|!=|<=|>=|[()\[\],+*/=<>-])`),
	}
}

// first tells the token with which s begins by the chapter's words, apart from the way that the package goes, and what it is written as.
func (w shapes) first(s string) (api.Token, string, api.Errno) {
	if m := w.name.FindString(s); m != "" {
		if len(m) > mostName {
			return api.Token{}, "", api.ErrBig
		}
		return name(m), m, api.OK
	}
	if m := w.number.FindString(s); m != "" {
		n, _ := new(big.Int).SetString(m, 10)
		switch {
		case n.String() != m:
			return api.Token{}, "", api.ErrSyntax
		case !n.IsInt64():
			return api.Token{}, "", api.ErrOver
		}
		return number(int(n.Int64())), m, api.OK
	}
	if m := w.text.FindString(s); m != "" {
		u := strings.NewReplacer(`\"`, `"`, `\\`, `\`).Replace(m[1 : len(m)-1])
		if len(u) > mostText {
			return api.Token{}, "", api.ErrBig
		}
		return text(u), m, api.OK
	}
	if m := w.mark.FindString(s); m != "" {
		return mark(m), m, api.OK
	}
	return api.Token{}, "", api.ErrSyntax
}

// lex tells what Lex is to answer.
func (w shapes) lex(s string) ([]api.Token, int, api.Errno) {
	if len(s) > mostSource {
		return nil, 0, api.ErrBig
	}
	var l []api.Token
	for i := 0; i < len(s); {
		if s[i] == ' ' {
			i++
			continue
		}
		t, m, e := w.first(s[i:])
		if e != api.OK {
			return nil, i, e
		}
		l = append(l, at(i, t))
		i += len(m)
	}
	return l, 0, api.OK
}

// lexes asks whether Lex answers those tokens, or that place and that error alone.
func lexes(t *testing.T, s string, l []api.Token, place int, want api.Errno) {
	t.Helper()
	if got, p, e := lex.Lex(s); !slices.Equal(got, l) || p != place || e != want {
		t.Errorf("Lex(%q): %v, %d, %d, not %v, %d, %d", s, got, p, int(e), l, place, int(want))
	}
}

// Example 1 of the chapter.
func TestExample(t *testing.T) {
	lexes(t, "a<= 12", []api.Token{at(0, name("a")), at(1, mark("<=")), at(4, number(12))}, 0, api.OK)
}

// P13.1: texts of which the tokens are told one by one.
func TestLex(t *testing.T) {
	for s, want := range map[string][]api.Token{
		"": nil, " ": nil, "    ": nil,
		"a":        {at(0, name("a"))},
		"  a  ":    {at(2, name("a"))},
		"ab12_ c":  {at(0, name("ab12_")), at(6, name("c"))},
		"12ab":     {at(0, number(12)), at(2, name("ab"))},
		"0a":       {at(0, number(0)), at(1, name("a"))},
		"0 0":      {at(0, number(0)), at(2, number(0))},
		"10":       {at(0, number(10))},
		"-0":       {at(0, mark("-")), at(1, number(0))},
		"- 5--5":   {at(0, mark("-")), at(2, number(5)), at(3, mark("-")), at(4, mark("-")), at(5, number(5))},
		"1..2":     {at(0, number(1)), at(1, mark("..")), at(3, number(2))},
		"0..0":     {at(0, number(0)), at(1, mark("..")), at(3, number(0))},
		"....":     {at(0, mark("..")), at(2, mark(".."))},
		"<=>":      {at(0, mark("<=")), at(2, mark(">"))},
		"<>=":      {at(0, mark("<")), at(1, mark(">="))},
		"< =":      {at(0, mark("<")), at(2, mark("="))},
		"=<":       {at(0, mark("=")), at(1, mark("<"))},
		"==":       {at(0, mark("=")), at(1, mark("="))},
		"!==":      {at(0, mark("!=")), at(2, mark("="))},
		"<==":      {at(0, mark("<=")), at(2, mark("="))},
		"not(null": {at(0, name("not")), at(3, mark("(")), at(4, name("null"))},
		"notnull":  {at(0, name("notnull"))},
		`""`:       {at(0, text(""))},
		`"a"`:      {at(0, text("a"))},
		`"a""b"`:   {at(0, text("a")), at(3, text("b"))},
		`""""`:     {at(0, text("")), at(2, text(""))},
		`"\""`:     {at(0, text(`"`))},
		`"\\"`:     {at(0, text(`\`))},
		`"\\""\""`: {at(0, text(`\`)), at(4, text(`"`))},
		`"\\\""`:   {at(0, text(`\"`))},
		`"a\\n"a`:  {at(0, text(`a\n`)), at(6, name("a"))},
		`"  < 5" `: {at(0, text("  < 5"))},
		`a"b"1`:    {at(0, name("a")), at(1, text("b")), at(4, number(1))},
		"]a..9[":   {at(0, mark("]")), at(1, name("a")), at(2, mark("..")), at(4, number(9)), at(5, mark("["))},
		"()[],+-*/=<>": {
			at(0, mark("(")), at(1, mark(")")), at(2, mark("[")), at(3, mark("]")), at(4, mark(",")), at(5, mark("+")),
			at(6, mark("-")), at(7, mark("*")), at(8, mark("/")), at(9, mark("=")), at(10, mark("<")), at(11, mark(">")),
		},
	} {
		lexes(t, s, want, 0, api.OK)
	}
}

// P13.1: the place of what is wrong first, and its error.
func TestLexRefuses(t *testing.T) {
	name17, text41, over := strings.Repeat("a", 17), strings.Repeat("x", 41), "9223372036854775808"
	for s, want := range map[string]struct {
		place int
		e     api.Errno
	}{
		// A number with a 0 ahead of others, however great it is.
		"00": {0, api.ErrSyntax}, "01": {0, api.ErrSyntax}, " 007": {1, api.ErrSyntax}, "1 00a": {2, api.ErrSyntax}, "a<01": {2, api.ErrSyntax}, "0" + over: {0, api.ErrSyntax}, strings.Repeat("0", 200): {0, api.ErrSyntax}, "00..1": {0, api.ErrSyntax},
		// A number that is too great.
		over: {0, api.ErrOver}, "-" + over: {1, api.ErrOver}, "9223372036854775809": {0, api.ErrOver}, "18446744073709551616": {0, api.ErrOver}, "18446744073709551617a": {0, api.ErrOver}, "10000000000000000000": {0, api.ErrOver}, strings.Repeat("9", 200): {0, api.ErrOver}, "a " + over + "x": {2, api.ErrOver},
		// A name or a text that is too long.
		name17: {0, api.ErrBig}, "1" + name17: {1, api.ErrBig}, "a(" + name17 + ")": {2, api.ErrBig}, strings.Repeat("_", 200): {0, api.ErrBig}, "a" + strings.Repeat("1", 16): {0, api.ErrBig},
		quoted(text41): {0, api.ErrBig}, "a " + quoted(text41): {2, api.ErrBig}, quoted(strings.Repeat("\"", 41)): {0, api.ErrBig}, quoted(strings.Repeat("x", 198)): {0, api.ErrBig}, quoted(text41) + "\n": {0, api.ErrBig}, quoted(text41) + "\"": {0, api.ErrBig},
		// A text without an end, or with what may not be in it, however long it is.
		"\"": {0, api.ErrSyntax}, "\"a": {0, api.ErrSyntax}, "a \"b": {2, api.ErrSyntax}, "\"\"\"": {2, api.ErrSyntax}, `"\"`: {0, api.ErrSyntax}, `"\\\"`: {0, api.ErrSyntax}, `"\`: {0, api.ErrSyntax},
		`"\n"`: {0, api.ErrSyntax}, `"\ "`: {0, api.ErrSyntax}, `"a\'"`: {0, api.ErrSyntax}, `"\\\x"`: {0, api.ErrSyntax}, "\"\n\"": {0, api.ErrSyntax}, "\"\\\n\"": {0, api.ErrSyntax}, " \"\x1f\"": {1, api.ErrSyntax}, "\"\x7f\"": {0, api.ErrSyntax}, "\"\u00e9\"": {0, api.ErrSyntax},
		"\"" + text41: {0, api.ErrSyntax}, "\"" + text41 + "\n\"": {0, api.ErrSyntax}, "\"" + text41 + "\\n\"": {0, api.ErrSyntax}, "\"" + text41 + "\\": {0, api.ErrSyntax}, "\"" + text41 + "\\\"": {0, api.ErrSyntax}, "\"\n" + text41 + "\"": {0, api.ErrSyntax},
		// A byte with which nothing begins.
		".": {0, api.ErrSyntax}, "!": {0, api.ErrSyntax}, "...": {2, api.ErrSyntax}, ". .": {0, api.ErrSyntax}, "! =": {0, api.ErrSyntax}, "1.5": {1, api.ErrSyntax}, "a!b": {1, api.ErrSyntax}, "\t": {0, api.ErrSyntax}, "a\n": {1, api.ErrSyntax}, "{": {0, api.ErrSyntax}, "'a'": {0, api.ErrSyntax}, "a ; b": {2, api.ErrSyntax}, "\\": {0, api.ErrSyntax}, "a\x00": {1, api.ErrSyntax}, "\u00e9": {0, api.ErrSyntax}, "a\u00e9": {1, api.ErrSyntax}, " \u00a0": {1, api.ErrSyntax}, "\xff": {0, api.ErrSyntax}, "a | b": {2, api.ErrSyntax},
		// Of several wrong things the first one is told.
		"! " + name17: {0, api.ErrSyntax}, name17 + " !": {0, api.ErrBig}, over + " " + name17: {0, api.ErrOver}, "a 01 " + over: {2, api.ErrSyntax}, "a." + name17: {1, api.ErrSyntax},
	} {
		lexes(t, s, nil, want.place, want.e)
	}
}

// P13.1: names, texts and numbers of most bytes, or greatest, and one beyond.
func TestLexBounds(t *testing.T) {
	for n := range 60 {
		s := strings.Repeat("n", n)
		switch {
		case n > mostName:
			lexes(t, "1 "+s+" 1", nil, 2, api.ErrBig)
		case n > 0:
			lexes(t, "1 "+s+" 1", []api.Token{at(0, number(1)), at(2, name(s)), at(3+n, number(1))}, 0, api.OK)
		}
		for _, c := range []string{"n", " ", "~", `"`, `\`} {
			s := strings.Repeat(c, n)
			if n > mostText {
				lexes(t, " "+quoted(s)+"1", nil, 1, api.ErrBig)
			} else {
				lexes(t, " "+quoted(s)+"1", []api.Token{at(1, text(s)), at(1+len(quoted(s)), number(1))}, 0, api.OK)
			}
		}
	}
	for _, n := range numbers() {
		s := fmt.Sprint(n)
		lexes(t, "a "+s, []api.Token{at(0, name("a")), at(2, number(n))}, 0, api.OK)
		lexes(t, "a 0"+s, nil, 2, api.ErrSyntax)
		if n > 0 {
			lexes(t, "a "+s+strings.Repeat("0", 19), nil, 2, api.ErrOver)
		}
	}
	most := new(big.Int).SetUint64(1 << 63)
	for i := range 100 {
		s := new(big.Int).Add(most, big.NewInt(int64(i-50))).String()
		if i < 50 {
			lexes(t, s, []api.Token{number(math.MaxInt - 49 + i)}, 0, api.OK)
		} else {
			lexes(t, s, nil, 0, api.ErrOver)
		}
	}
}

// P13.1: of more than 200 bytes that is told, whatever they are; of 200 they are asked.
func TestLexBig(t *testing.T) {
	for _, s := range []string{" ", "a", "(", "!", "\"", "\x00", "0", "9", "a ", "\u00e9"} {
		for _, n := range []int{201, 202, 1000, 100000} {
			lexes(t, strings.Repeat(s, n)[:n], nil, 0, api.ErrBig)
		}
	}
	var l []api.Token
	for i := range mostSource {
		l = append(l, at(i, mark("(")))
	}
	lexes(t, strings.Repeat("(", 200), l, 0, api.OK)
	lexes(t, strings.Repeat(" ", 200), nil, 0, api.OK)
	lexes(t, strings.Repeat(" ", 199)+"a", []api.Token{at(199, name("a"))}, 0, api.OK)
	lexes(t, "a"+strings.Repeat(" ", 199), []api.Token{name("a")}, 0, api.OK)
	lexes(t, strings.Repeat(" ", 199)+"!", nil, 199, api.ErrSyntax)
	lexes(t, strings.Repeat(" ", 200)+"a", nil, 0, api.ErrBig)
	lexes(t, "a"+strings.Repeat(" ", 200), nil, 0, api.ErrBig)
}

// P13.1: each token alone, and with blanks around.
func TestLexTokens(t *testing.T) {
	for _, x := range tokens() {
		lexes(t, x.text, []api.Token{x.token}, 0, api.OK)
		lexes(t, "  "+x.text+" ", []api.Token{at(2, x.token)}, 0, api.OK)
	}
}

// all tells all texts of up to so many of these bytes.
func all(bytes string, most int) []string {
	l := []string{""}
	for last := l; most > 0; most-- {
		var next []string
		for _, s := range last {
			for i := range len(bytes) {
				next = append(next, s+bytes[i:i+1])
			}
		}
		l = append(l, next...)
		last = next
	}
	return l
}

// P13.1: all short texts of telling bytes, and each byte at each place of some.
func TestLexAll(t *testing.T) {
	l := append(all("a_Z09 \"\\.!=<>-]\x7f", 4), all("\"\\ a\n~", 6)...)
	for b := range 256 {
		c := string([]byte{byte(b)})
		for _, s := range []string{"%", "a%", "%a", "0%", "9%9", "\"%\"", "\"\\%\"", "\"a%a\"", "<%", "!%", ".%", "%=", "%.", "\"\"%", "a %b"} {
			l = append(l, strings.ReplaceAll(s, "%", c))
		}
	}
	w := shapesOf()
	right := 0
	for _, s := range l {
		want, place, e := w.lex(s)
		if got, p, f := lex.Lex(s); !slices.Equal(got, want) || p != place || f != e {
			t.Fatalf("Lex(%q): %v, %d, %d, not %v, %d, %d", s, got, p, int(f), want, place, int(e))
		}
		if e == api.OK {
			right++
		}
	}
	if right < 1000 || right > len(l)-1000 {
		t.Error("too few are right, or wrong", right, len(l))
	}
}

// mixed tells texts of tokens, some of them wrong, with and without blanks between; the same ones each time.
func mixed(count int, wrong bool) []string {
	r := rand.New(rand.NewSource(13))
	x := tokens()
	bad := []string{"!", ".", "\"", "\\", "01", "\n", "9223372036854775808", strings.Repeat("a", 17), quoted(strings.Repeat("x", 41)), "\"\\n\"", "{", "\u00e9"}
	var l []string
	for range count {
		var b strings.Builder
		for range r.Intn(30) {
			if wrong && r.Intn(40) == 0 {
				b.WriteString(bad[r.Intn(len(bad))])
			} else {
				b.WriteString(x[r.Intn(len(x))].text)
			}
			b.WriteString(strings.Repeat(" ", r.Intn(3)))
		}
		l = append(l, b.String())
	}
	return l
}

// P13.1: texts of many tokens.
func TestLexMixed(t *testing.T) {
	w := shapesOf()
	has := map[api.Errno]int{}
	for _, s := range mixed(20000, true) {
		l, place, e := w.lex(s)
		has[e]++
		lexes(t, s, l, place, e)
		if t.Failed() {
			return
		}
	}
	for _, e := range []api.Errno{api.OK, api.ErrBig, api.ErrOver, api.ErrSyntax} {
		if has[e] < 50 {
			t.Error("too few texts with this error", int(e), has[e])
		}
	}
}

// P13.1: each answer of Lex is new.
func TestLexOwn(t *testing.T) {
	want := []api.Token{at(0, name("a")), at(1, mark("<")), at(3, number(5)), at(5, text("x"))}
	l, _, _ := lex.Lex(`a< 5 "x"`)
	again, _, _ := lex.Lex(`a< 5 "x"`)
	clear(again)
	_ = append(again, name("b"))
	if !slices.Equal(l, want) {
		t.Error("Lex: two answers share their memory", l)
	}
	lexes(t, `a< 5 "x"`, want, 0, api.OK)
}

// P13.2: tokens' texts; where they begin is not asked.
func TestText(t *testing.T) {
	for _, x := range tokens() {
		for _, i := range []int{0, 1, -1, 200, math.MaxInt, math.MinInt} {
			if s, e := lex.Text(at(i, x.token)); s != x.text || e != api.OK {
				t.Fatalf("Text(%v): %q, %d, not %q", at(i, x.token), s, int(e), x.text)
			}
		}
	}
	for x, want := range map[api.Token]string{
		name("x_1"): "x_1", name("and"): "and", name("null"): "null", name("_"): "_", number(0): "0", number(10): "10", number(math.MaxInt): "9223372036854775807",
		text(""): `""`, text("a b"): `"a b"`, text(`a"b\`): `"a\"b\\"`, text("12"): `"12"`, mark(".."): "..", mark("!="): "!=", mark("<"): "<", mark("]"): "]",
	} {
		if s, e := lex.Text(x); s != want || e != api.OK {
			t.Errorf("Text(%v): %q, %d, not %q", x, s, int(e), want)
		}
	}
}

// P13.2: of what is no token there is no text, wherever it is said to begin.
func TestTextRefuses(t *testing.T) {
	for _, x := range wrongs() {
		for _, i := range []int{0, 7, -1} {
			if s, e := lex.Text(at(i, x)); s != "" || e != api.ErrArg {
				t.Errorf("Text(%v): %q, %d", at(i, x), s, int(e))
			}
		}
	}
}

// P13.2: tokens' texts with a blank between two, however long that is; the list, and what stands behind its end, stay as they were.
func TestJoin(t *testing.T) {
	for want, l := range map[string][]api.Token{
		"": nil, "a": {name("a")}, "a <= 12": {at(9, name("a")), mark("<="), number(12)}, `"" ""`: {text(""), text("")}, "- - 5": {mark("-"), mark("-"), number(5)},
		`not ( < 5 , ] a .. "b\"" ] )`: {name("not"), mark("("), mark("<"), number(5), mark(","), mark("]"), name("a"), mark(".."), text(`b"`), mark("]"), mark(")")},
	} {
		if s, e := lex.Join(l); s != want || e != api.OK {
			t.Errorf("Join(%v): %q, %d, not %q", l, s, int(e), want)
		}
	}
	if s, e := lex.Join([]api.Token{}); s != "" || e != api.OK {
		t.Errorf("Join of an empty list: %q, %d", s, int(e))
	}
	var room []api.Token
	var parts []string
	for _, x := range tokens() {
		room, parts = append(room, x.token), append(parts, x.text)
	}
	count := len(room)
	room = append(room, api.Token{}, name("7"))
	ahead := slices.Clone(room)
	for n := 0; n <= count; n += 1 + n/9 {
		if s, e := lex.Join(room[:n]); s != strings.Join(parts[:n], " ") || e != api.OK {
			t.Errorf("Join of %d tokens: %q, %d", n, s, int(e))
		}
	}
	if !slices.Equal(room, ahead) {
		t.Error("Join has changed the tokens")
	}
}

// P13.2: tokens of which one is none, wherever it stands, have no text.
func TestJoinRefuses(t *testing.T) {
	a, b := name("a"), mark("(")
	for _, x := range wrongs() {
		for _, l := range [][]api.Token{{x}, {x, a}, {a, x}, {a, x, b}, {a, b, text("x"), number(5), x}, {x, x}} {
			if s, e := lex.Join(l); s != "" || e != api.ErrArg {
				t.Errorf("Join(%v): %q, %d", l, s, int(e))
			}
		}
	}
}

// P13.3: which texts are names.
func TestName(t *testing.T) {
	for _, s := range names() {
		if !lex.Name(s) {
			t.Errorf("Name(%q) is false", s)
		}
	}
	for _, s := range append(wrongNames(), words()...) {
		if lex.Name(s) {
			t.Errorf("Name(%q) is true", s)
		}
	}
	for _, s := range words() {
		for _, u := range []string{s + "s", s + "_", "_" + s, s + s, strings.ToUpper(s), strings.ToUpper(s[:1]) + s[1:], s[:len(s)-1]} {
			if !lex.Name(u) {
				t.Errorf("Name(%q) is false", u)
			}
		}
		if lex.Name(" "+s) || lex.Name(s+" ") || lex.Name(s+"(") {
			t.Errorf("%q with more is a name", s)
		}
	}
}

// unplaced tells the tokens, each without where it begins.
func unplaced(l []api.Token) []api.Token {
	var m []api.Token
	for _, x := range l {
		m = append(m, at(0, x))
	}
	return m
}

// P13.4: each two tokens are read again from what they are joined to, and many are, if that is not too long.
func TestJoinBack(t *testing.T) {
	x := tokens()
	back := func(l []api.Token) {
		t.Helper()
		s, e := lex.Join(l)
		if e != api.OK {
			t.Fatalf("Join(%v): %d", l, int(e))
		}
		if len(s) > mostSource {
			lexes(t, s, nil, 0, api.ErrBig)
		} else if got, p, e := lex.Lex(s); !slices.Equal(unplaced(got), l) || p != 0 || e != api.OK {
			t.Fatalf("Lex(%q): %v, %d, %d, not %v", s, got, p, int(e), l)
		}
	}
	for _, a := range x {
		for _, b := range x {
			back([]api.Token{a.token, b.token})
		}
	}
	r := rand.New(rand.NewSource(4))
	for range 5000 {
		var l []api.Token
		for range r.Intn(24) {
			l = append(l, x[r.Intn(len(x))].token)
		}
		back(l)
	}
}

// P13.4: a text's tokens, joined, have these tokens.
func TestLexBack(t *testing.T) {
	count := 0
	for _, s := range append(mixed(20000, false), all("a0 \"\\.!=<", 5)...) {
		l, _, e := lex.Lex(s)
		if e != api.OK {
			continue
		}
		u, e := lex.Join(l)
		if e != api.OK {
			t.Fatalf("Join of what Lex(%q) tells: %d", s, int(e))
		}
		if len(u) > mostSource {
			continue
		}
		if back, p, e := lex.Lex(u); !slices.Equal(unplaced(back), unplaced(l)) || p != 0 || e != api.OK {
			t.Fatalf("Lex(%q): %v, %d, %d, not as of %q: %v", u, back, p, int(e), s, l)
		}
		count++
	}
	if count < 10000 {
		t.Error("too few texts were asked", count)
	}
}
