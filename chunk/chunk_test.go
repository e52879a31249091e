package chunk_test

import (
	"fmt"
	"math"
	"slices"
	"strings"
	"testing"

	"decretal/api"
	"decretal/chunk"
	"decretal/disk"
	"decretal/pages"
	"decretal/tree"
)

const (
	chunkBytes = 150
	mostPrefix = 40
	mostBytes  = 1400
	homeAt     = 66 // where page 0 is at home
)

// text tells a text of so many bytes, all kinds of them, in which no two chunks are alike.
func text(n int) string {
	b := make([]byte, n)
	for i := range b {
		b[i] = byte(i*7 + i/chunkBytes)
	}
	return string(b)
}

// lengths tells those around which the number of chunks changes, from 0 up to the greatest one.
func lengths() []int {
	l := []int{0, 1, 2, 75, mostBytes - 1, mostBytes}
	for n := chunkBytes; n < mostBytes; n += chunkBytes {
		l = append(l, n-1, n, n+1)
	}
	slices.Sort(l)
	return l
}

// prefixes tells such that are right: short and long ones, and of bytes that numbers have, too.
func prefixes() []string {
	return []string{
		"p", "pre", "\x00", "\xff", "\x00\x00", "\xff\xff", "a\x00\x01b",
		strings.Repeat("q", mostPrefix-1), strings.Repeat("q", mostPrefix), strings.Repeat("\xff", mostPrefix),
	}
}

// wrongPrefixes tells such that are not right.
func wrongPrefixes() []string {
	return []string{"", strings.Repeat("q", mostPrefix+1), strings.Repeat("\x00", 1000)}
}

// keyOf tells the i-th chunk's key, by the chapter's words.
func keyOf(prefix string, i int) string {
	return prefix + string([]byte{byte(i / 256), byte(i % 256)})
}

// cutOf tells the edit that takes a text out, by the chapter's words.
func cutOf(prefix string) api.Edit {
	return api.Edit{Cut: true, Key: prefix + "\x00\x00", To: prefix + "\xff\xff"}
}

// chunksOf tells a text's chunks under their keys, cut from the front, apart from the way that the package goes.
func chunksOf(prefix, s string) []api.Pair {
	var l []api.Pair
	for len(s) > chunkBytes {
		l = append(l, api.Pair{Key: keyOf(prefix, len(l)), Value: s[:chunkBytes]})
		s = s[chunkBytes:]
	}
	return append(l, api.Pair{Key: keyOf(prefix, len(l)), Value: s})
}

// puts tells the edits that put pairs.
func puts(l []api.Pair) []api.Edit {
	var edits []api.Edit
	for _, p := range l {
		edits = append(edits, api.Edit{Key: p.Key, Value: p.Value})
	}
	return edits
}

// fresh tells an empty tree on a new disk with so many pages, and what it stands over.
func fresh(t testing.TB, count int) (*tree.Tree, *pages.Pages, *disk.Disk) {
	t.Helper()
	d, e := disk.New(homeAt + count)
	if e != api.OK {
		t.Fatalf("disk.New: %d", int(e))
	}
	p, e := pages.Open(d)
	if e != api.OK {
		t.Fatalf("pages.Open: %d", int(e))
	}
	x, e := tree.Open(p)
	if e != api.OK {
		t.Fatalf("tree.Open: %d", int(e))
	}
	return x, p, d
}

// done does edits, which must be done.
func done(t testing.TB, x *tree.Tree, l []api.Edit) {
	t.Helper()
	if e := x.Apply(l, ""); e != api.OK {
		t.Fatalf("Apply: %d", int(e))
	}
}

// stored puts a text into a tree.
func stored(t testing.TB, x *tree.Tree, prefix, s string) {
	t.Helper()
	l, e := chunk.Edits(prefix, s)
	if e != api.OK {
		t.Fatalf("Edits(%q, %d bytes): %d", prefix, len(s), int(e))
	}
	done(t, x, l)
}

// loads asks whether Load answers that text, or that error alone.
func loads(t testing.TB, what string, x *tree.Tree, prefix, want string, wrong api.Errno) {
	t.Helper()
	if s, e := chunk.Load(x, prefix); s != want || e != wrong {
		t.Errorf("%s: Load(%q): %d bytes, %d, not %d, %d", what, prefix, len(s), int(e), len(want), int(wrong))
	}
}

// Example 1 of the chapter.
func TestExample(t *testing.T) {
	l, e := chunk.Edits("p", "x")
	want := []api.Edit{{Key: "p\x00\x00", Cut: true, To: "p\xff\xff"}, {Key: "p\x00\x00", Value: "x"}}
	if e != api.OK || !slices.Equal(l, want) {
		t.Errorf("Edits: %+v, %d", l, int(e))
	}
}

// The constants, as the chapter has them.
func TestConstants(t *testing.T) {
	if chunk.Bytes != chunkBytes || chunk.MaxPrefix != mostPrefix {
		t.Error(chunk.Bytes, chunk.MaxPrefix)
	}
}

// P11.1: how many chunks a text has; any number may be asked.
func TestCount(t *testing.T) {
	for n, want := range map[int]int{
		math.MinInt: 1, math.MinInt + 1: 1, -chunkBytes: 1, -1: 1, 0: 1, 1: 1, 149: 1, 150: 1, 151: 2,
		300: 2, 301: 3, 1350: 9, 1351: 10, 1400: 10, 1500: 10, 1501: 11,
		math.MaxInt:       math.MaxInt/chunkBytes + 1,
		math.MaxInt - 7:   math.MaxInt / chunkBytes,
		math.MaxInt - 157: math.MaxInt/chunkBytes - 1,
	} {
		if k := chunk.Count(n); k != want {
			t.Errorf("Count(%d): %d, not %d", n, k, want)
		}
	}
	for n := range 3000 {
		if k, want := chunk.Count(n), len(chunksOf("p", text(n))); k != want {
			t.Errorf("Count(%d): %d, not %d", n, k, want)
		}
	}
}

// P11.1: a cut, and a put of each chunk, in order.
func TestEdits(t *testing.T) {
	for _, prefix := range prefixes() {
		for _, n := range lengths() {
			want := append([]api.Edit{cutOf(prefix)}, puts(chunksOf(prefix, text(n)))...)
			l, e := chunk.Edits(prefix, text(n))
			if e != api.OK || !slices.Equal(l, want) {
				t.Errorf("Edits(%q, %d bytes): %d edits, %d", prefix, n, len(l), int(e))
			}
			if len(l) != chunk.Count(n)+1 {
				t.Errorf("Edits(%q, %d bytes): %d edits beside %d chunks", prefix, n, len(l), chunk.Count(n))
			}
		}
	}
}

// P11.1: each answer of Edits is new.
func TestEditsOwn(t *testing.T) {
	l, _ := chunk.Edits("p", text(200))
	want := slices.Clone(l)
	again, _ := chunk.Edits("p", text(200))
	clear(again)
	_ = append(again, api.Edit{})
	if !slices.Equal(l, want) {
		t.Errorf("Edits: two answers share their memory: %+v", l)
	}
}

// P11.1: what Edits refuses, a wrong prefix ahead of a text that is too long.
func TestEditsRefuses(t *testing.T) {
	type asked struct {
		prefix, s string
		want      api.Errno
	}
	var l []asked
	for _, prefix := range wrongPrefixes() {
		for _, n := range []int{0, 1, mostBytes, mostBytes + 1, 100000} {
			l = append(l, asked{prefix, text(n), api.ErrArg})
		}
	}
	for _, prefix := range prefixes() {
		for _, n := range []int{mostBytes + 1, mostBytes + 2, 1500, 1501, 100000} {
			l = append(l, asked{prefix, text(n), api.ErrBig})
		}
	}
	for _, a := range l {
		if edits, e := chunk.Edits(a.prefix, a.s); len(edits) != 0 || e != a.want {
			t.Errorf("Edits(%q, %d bytes): %d edits, %d, not %d", a.prefix, len(a.s), len(edits), int(e), int(a.want))
		}
	}
}

// P11.1: the edit that takes a text out.
func TestClear(t *testing.T) {
	for _, prefix := range prefixes() {
		if d, e := chunk.Clear(prefix); d != cutOf(prefix) || e != api.OK {
			t.Errorf("Clear(%q): %+v, %d", prefix, d, int(e))
		}
	}
	for _, prefix := range wrongPrefixes() {
		if d, e := chunk.Clear(prefix); d != (api.Edit{}) || e != api.ErrArg {
			t.Errorf("Clear(%q): %+v, %d", prefix, d, int(e))
		}
	}
}

// P11.1: what Clear tells takes a text out, and nothing of another one whose prefix has that length.
func TestClearTakesOut(t *testing.T) {
	x, _, _ := fresh(t, 200)
	near := []string{"aa", "ac", "\xff\xff"}
	for _, prefix := range append(near, "ab") {
		stored(t, x, prefix, text(301))
	}
	d, _ := chunk.Clear("ab")
	done(t, x, []api.Edit{d})
	loads(t, "taken out", x, "ab", "", api.ErrNone)
	for _, prefix := range near {
		loads(t, "beside", x, prefix, text(301), api.OK)
	}
}

// P11.2: chunks are joined, whatever stands behind the list's end, and the list stays as it was.
func TestJoin(t *testing.T) {
	for _, prefix := range prefixes() {
		for _, n := range lengths() {
			room := append(chunksOf(prefix, text(n)), api.Pair{Key: "behind", Value: "behind"})
			l := room[:len(room)-1]
			ahead := slices.Clone(room)
			if s, e := chunk.Join(prefix, l); s != text(n) || e != api.OK {
				t.Errorf("Join(%q) of %d bytes: %d bytes, %d", prefix, n, len(s), int(e))
			}
			if !slices.Equal(room, ahead) {
				t.Errorf("Join(%q) of %d bytes has changed its pairs", prefix, n)
			}
		}
	}
}

// P11.2: a text that was joined is not the list's.
func TestJoinOwn(t *testing.T) {
	l := chunksOf("p", text(400))
	s, _ := chunk.Join("p", l)
	clear(l)
	if s != text(400) {
		t.Errorf("Join's answer has changed with its pairs")
	}
}

// joinRefuses asks whether Join answers that error alone.
func joinRefuses(t *testing.T, what, prefix string, l []api.Pair, want api.Errno) {
	t.Helper()
	if s, e := chunk.Join(prefix, l); s != "" || e != want {
		t.Errorf("Join(%q) of %s: %d bytes, %d, not %d", prefix, what, len(s), int(e), int(want))
	}
}

// P11.2: a wrong prefix comes ahead of all else, and no pairs ahead of wrong ones.
func TestJoinOrder(t *testing.T) {
	for _, prefix := range wrongPrefixes() {
		joinRefuses(t, "none", prefix, nil, api.ErrArg)
		joinRefuses(t, "its own", prefix, chunksOf(prefix, text(200)), api.ErrArg)
		joinRefuses(t, "others", prefix, []api.Pair{{Key: "x"}}, api.ErrArg)
	}
	for _, prefix := range prefixes() {
		joinRefuses(t, "none", prefix, nil, api.ErrNone)
		joinRefuses(t, "an empty list", prefix, []api.Pair{}, api.ErrNone)
	}
}

// changed tells a copy of pairs in which one is another one.
func changed(l []api.Pair, i int, key, value string) []api.Pair {
	l = slices.Clone(l)
	l[i] = api.Pair{Key: key, Value: value}
	return l
}

// P11.2: what is no text's chunks.
func TestJoinForm(t *testing.T) {
	full, one := text(chunkBytes), text(1)
	three := chunksOf("p", text(301))
	two := chunksOf("p", text(300))
	for what, l := range map[string][]api.Pair{
		"another prefix":                  chunksOf("q", one),
		"a longer prefix":                 chunksOf("pp", one),
		"a key that is the prefix":        {{Key: "p", Value: one}},
		"an empty key":                    {{Value: one}},
		"a number of one byte":            {{Key: "p\x00", Value: one}},
		"a number of three bytes":         {{Key: "p\x00\x00\x00", Value: one}},
		"a number with its bytes turned":  {three[0], {Key: "p\x01\x00", Value: one}},
		"the second one alone":            {{Key: "p\x00\x01", Value: one}},
		"the last number alone":           {{Key: "p\xff\xff", Value: one}},
		"all but the first one":           three[1:],
		"all but the second one":          {three[0], three[2]},
		"one twice":                       {three[0], three[1], three[1]},
		"the first one twice":             {three[0], three[0]},
		"two of them turned":              {three[1], three[0], three[2]},
		"one that is not full":            changed(three, 1, three[1].Key, full[:149]),
		"one that is too full":            changed(three, 1, three[1].Key, full+"x"),
		"an empty one between":            changed(three, 1, three[1].Key, ""),
		"an empty one ahead":              changed(two, 0, two[0].Key, ""),
		"an empty one behind":             append(slices.Clone(two), api.Pair{Key: keyOf("p", 2)}),
		"an empty one behind another":     append(chunksOf("p", full), api.Pair{Key: keyOf("p", 1)}),
		"two empty ones":                  {{Key: keyOf("p", 0)}, {Key: keyOf("p", 1)}},
		"a single one that is too full":   {{Key: keyOf("p", 0), Value: full + "x"}},
		"the last one too full":           changed(three, 2, three[2].Key, full+"x"),
		"bytes too late":                  {{Key: keyOf("p", 0), Value: full[:100]}, {Key: keyOf("p", 1), Value: full}},
		"a text of 1401 bytes":            chunksOf("p", text(mostBytes+1)),
		"a text of 1500 bytes":            chunksOf("p", text(1500)),
		"a text of 1501 bytes":            chunksOf("p", text(1501)),
		"a text of 70000 chunks":          chunksOf("p", text(70000*chunkBytes)),
		"a single one of 1400 bytes":      {{Key: keyOf("p", 0), Value: text(mostBytes)}},
		"1400 bytes, and an empty one":    append(chunksOf("p", text(mostBytes)), api.Pair{Key: keyOf("p", 10)}),
		"ten full ones, but the last one": append(chunksOf("p", text(1350)), api.Pair{Key: keyOf("p", 9)}),
	} {
		joinRefuses(t, what, "p", l, api.ErrForm)
	}
}

// P11.2: of texts' chunks that are near one another Join takes only such as the chapter's words allow, and tells their bytes.
func TestJoinNear(t *testing.T) {
	values := []string{"", "x", text(149), text(150), text(151)}
	taken := 0
	for _, a := range values {
		for _, b := range values {
			for _, c := range values {
				l := []api.Pair{{Key: "p\x00\x00", Value: a}, {Key: "p\x00\x01", Value: b}, {Key: "p\x00\x02", Value: c}}
				for n := 1; n <= 3; n++ {
					all := (a + b + c)[:len(a)*min(n, 1)+len(b)*min(n-1, 1)+len(c)*max(n-2, 0)]
					want, wrong := all, api.OK
					if !slices.Equal(chunksOf("p", all), l[:n]) {
						want, wrong = "", api.ErrForm
					}
					if s, e := chunk.Join("p", l[:n]); s != want || e != wrong {
						t.Errorf("Join of %d, %d, %d bytes, %d pairs: %d bytes, %d", len(a), len(b), len(c), n, len(s), int(e))
					}
					if wrong == api.OK {
						taken++
					}
				}
			}
		}
	}
	if taken == 0 {
		t.Error("no text was taken")
	}
}

// P11.3: a wrong prefix comes ahead of what is no tree, and that ahead of a prefix under which nothing stands.
func TestLoadRefuses(t *testing.T) {
	x, _, _ := fresh(t, 60)
	stored(t, x, "p", "x")
	for _, prefix := range wrongPrefixes() {
		for what, y := range map[string]*tree.Tree{"a tree": x, "nil": nil, "nothing": {}} {
			loads(t, what, y, prefix, "", api.ErrArg)
		}
	}
	for _, prefix := range prefixes() {
		loads(t, "nil", nil, prefix, "", api.ErrNil)
		loads(t, "nothing", new(tree.Tree), prefix, "", api.ErrNil)
	}
	for _, prefix := range prefixes()[1:] {
		loads(t, "a tree", x, prefix, "", api.ErrNone)
	}
	loads(t, "a tree", x, "p", "x", api.OK)
	empty, _, _ := fresh(t, 60)
	loads(t, "an empty tree", empty, "p", "", api.ErrNone)
}

// P11.3: the errors of a tree that can't be read come up, also where there is no text.
func TestLoadErrors(t *testing.T) {
	x, p, d := fresh(t, 60)
	stored(t, x, "p", text(400))
	if e := p.Checkpoint(); e != api.OK {
		t.Fatalf("Checkpoint: %d", int(e))
	}
	whole := make([]string, d.Len())
	for i := range whole {
		whole[i], _ = d.Read(i)
	}
	for i := homeAt + 1; i < d.Len(); i++ {
		d.Write(i, strings.Repeat("\x07", 512))
	}
	loads(t, "rot", x, "p", "", api.ErrRot)
	loads(t, "rot", x, "q", "", api.ErrRot)
	for i, s := range whole {
		d.Write(i, s)
	}
	loads(t, "as it was", x, "p", text(400), api.OK)
	d.Arm(0)
	d.Flush()
	loads(t, "no power", x, "p", "", api.ErrPower)
	loads(t, "no power", x, "q", "", api.ErrPower)
	loads(t, "no power", x, "", "", api.ErrArg)
}

// P11.3: Load tells what Join tells of the span that Clear names: what stands in it and is no chunk makes the text none, what stands at its end or ahead of it does not.
func TestLoadSpan(t *testing.T) {
	for _, c := range []struct {
		what string
		more []api.Edit
		want api.Errno
	}{
		{"a key behind the last chunk", []api.Edit{{Key: "p\x00\x09", Value: "x"}}, api.ErrForm},
		{"the next chunk's key", []api.Edit{{Key: "p\x00\x03", Value: "x"}}, api.ErrForm},
		{"an empty next chunk", []api.Edit{{Key: "p\x00\x03"}}, api.ErrForm},
		{"a key with three bytes behind", []api.Edit{{Key: "p\x00\x01x", Value: "x"}}, api.ErrForm},
		{"a key with one byte behind", []api.Edit{{Key: "px", Value: "x"}}, api.ErrForm},
		{"the last key of the span", []api.Edit{{Key: "p\xff\xfe\xff\xff", Value: "x"}}, api.ErrForm},
		{"a chunk that is shorter", []api.Edit{{Key: "p\x00\x01", Value: "x"}}, api.ErrForm},
		{"no first chunk", []api.Edit{{Key: "p\x00\x00", Cut: true, To: "p\x00\x01"}}, api.ErrForm},
		{"no second chunk", []api.Edit{{Key: "p\x00\x01", Cut: true, To: "p\x00\x02"}}, api.ErrForm},
		{"the span's end", []api.Edit{{Key: "p\xff\xff", Value: "x"}}, api.OK},
		{"keys behind the span", []api.Edit{{Key: "p\xff\xff\x00", Value: "x"}, {Key: "q", Value: "y"}}, api.OK},
		{"keys ahead of the span", []api.Edit{{Key: "p", Value: "x"}, {Key: "p\x00", Value: "y"}, {Key: "o\xff\xff", Value: "z"}}, api.OK},
	} {
		x, _, _ := fresh(t, 60)
		stored(t, x, "p", text(301))
		done(t, x, c.more)
		want := ""
		if c.want == api.OK {
			want = text(301)
		}
		loads(t, c.what, x, "p", want, c.want)
	}
}

// P11.4: each text is loaded again, and what stood there ahead is gone.
func TestBack(t *testing.T) {
	for _, prefix := range prefixes() {
		x, _, _ := fresh(t, 120)
		l := lengths()
		for i, n := range l {
			// By turns from both ends, so that texts become longer, and shorter.
			if i%2 == 1 {
				n = l[len(l)-i]
			}
			stored(t, x, prefix, text(n))
			loads(t, fmt.Sprint(n, " bytes"), x, prefix, text(n), api.OK)
			if x.Len() != chunk.Count(n) {
				t.Errorf("%q, %d bytes: %d keys, not %d", prefix, n, x.Len(), chunk.Count(n))
			}
		}
	}
}

// P11.4: texts under prefixes of one length are told apart, whatever their bytes, and in whichever order they come and go.
func TestBackBeside(t *testing.T) {
	for length := 1; length <= mostPrefix; length += 13 {
		x, _, _ := fresh(t, 900)
		stem := strings.Repeat("s", length-1)
		held := map[string]string{}
		for i := range 120 {
			b := []byte{0, 1, 's', 'p', 254, 255}[i*5%6]
			prefix := stem + string([]byte{b})
			if length > 1 && i%3 == 0 {
				prefix = string([]byte{b}) + stem
			}
			if i%7 == 6 {
				d, _ := chunk.Clear(prefix)
				done(t, x, []api.Edit{d})
				delete(held, prefix)
			} else {
				held[prefix] = text(i * 97 % (mostBytes + 1))
				stored(t, x, prefix, held[prefix])
			}
			for _, b := range []byte{0, 1, 's', 'p', 254, 255} {
				for _, other := range []string{stem + string([]byte{b}), string([]byte{b}) + stem} {
					s, there := held[other]
					if wrong := api.ErrNone; there {
						loads(t, fmt.Sprint("step ", i), x, other, s, api.OK)
					} else {
						loads(t, fmt.Sprint("step ", i), x, other, "", wrong)
					}
				}
			}
		}
	}
}

// P11.4: what was synced is loaded again from a tree that is opened again.
func TestBackAgain(t *testing.T) {
	x, _, d := fresh(t, 120)
	stored(t, x, "p", text(mostBytes))
	if e := x.Sync(); e != api.OK {
		t.Fatalf("Sync: %d", int(e))
	}
	stored(t, x, "p", text(1))
	d.Crash(nil)
	p, e := pages.Open(d)
	if e != api.OK {
		t.Fatalf("pages.Open: %d", int(e))
	}
	x, e = tree.Open(p)
	if e != api.OK {
		t.Fatalf("tree.Open: %d", int(e))
	}
	loads(t, "again", x, "p", text(mostBytes), api.OK)
}
