package tests

import (
	"fmt"
	"math"
	"math/rand"
	"slices"
	"strings"
	"testing"

	"loop.example/headrace/impl"
)

func mark(src string, n int) impl.Mark { return impl.Mark{Src: src, Ver: n} }

// stampOk holds StampOk, and whatever hangs on it, against the model and what is told.
func stampOk(t *testing.T, s []impl.Mark, want bool) {
	t.Helper()
	text := impl.StampText(s)
	if impl.StampOk(s) != want || modelStampOk(s) != want || (text != "") != want {
		t.Errorf("%v: %v, %q, the model %v", s, impl.StampOk(s), text, modelStampOk(s))
	}
	if want && text != modelStampText(s) || len(text) > impl.StampMaxText {
		t.Errorf("%v: %q", s, text)
	}
	holdBoth(t, s, s)
	holdBoth(t, s, nil)
	holdBoth(t, s, marks("x:1"))
	var names []string
	for _, m := range s {
		names = append(names, m.Src)
		if got := impl.StampGet(s, m.Src); got != m.Ver && want || got != 0 && !want {
			t.Errorf("%v: %d of %q", s, got, m.Src)
		}
	}
	if only := impl.StampOnly(s, names); !sameMarks(only, modelOnly(s, names)) || want && !sameMarks(only, s) {
		t.Errorf("%v: only %v", s, only)
	}
}

// holdBoth holds what two stamps come to against the model, from both sides.
func holdBoth(t *testing.T, a, b []impl.Mark) {
	t.Helper()
	for range 2 {
		join, ok := impl.StampJoin(a, b)
		want, wantOk := modelJoin(a, b)
		if ok != wantOk || !sameMarks(join, want) {
			t.Errorf("%v and %v: joined %v %v, not %v %v", a, b, join, ok, want, wantOk)
		}
		if got := impl.StampAgree(a, b); got != modelAgree(a, b) {
			t.Errorf("%v and %v: %v", a, b, got)
		}
		if got := impl.StampOrder(a, b); got != modelOrder(a, b) {
			t.Errorf("%v and %v: order %d, not %d", a, b, got, modelOrder(a, b))
		}
		a, b = b, a
	}
}

func TestHowManyMarks(t *testing.T) {
	stampOk(t, nil, true)
	stampOk(t, []impl.Mark{}, true)
	for n := range 20 {
		stampOk(t, wideMarks(n), n <= 12)
	}
	for _, n := range []int{256, 257, 268} {
		long := make([]impl.Mark, n)
		for i := range long {
			long[i] = mark(fmt.Sprintf("a%03d", i), 1)
		}
		stampOk(t, long, false)
	}
}

func TestSourcesOfStamps(t *testing.T) {
	all := func(src string, want bool) {
		t.Helper()
		stampOk(t, []impl.Mark{mark(src, 7)}, want)
		stampOk(t, []impl.Mark{mark(src, 7), mark("zzzzzzzz", 1)}, want && src != "zzzzzzzz")
		stampOk(t, []impl.Mark{mark("-", 7), mark(src, 1)}, want && src != "-")
	}
	for c := range 256 {
		may := c < 128 && strings.ContainsRune(recNameBytes, rune(c))
		one := string([]byte{byte(c)})
		for _, src := range []string{one, one + "a", "a" + one, "abc" + one + "def", "abcdefg" + one} {
			all(src, may)
		}
		all("abcdefgh"+one, false)
	}
	for _, src := range []string{"", "abcdefghi", "A", "ä", "a\n", "\na", strings.Repeat("a", 256), strings.Repeat("a", 264), "a b", "a_b", "a:1", "x:"} {
		all(src, false)
	}
	for _, src := range append([]string{"-", "--------", "0", "01234567", "zyxwvuts", "zzzzzzzz", "a-9", "7x"}, allKeys...) {
		all(src, true)
	}
}

func TestSourcesAscend(t *testing.T) {
	for _, srcs := range []string{"a b", "a ab", "ab abc abcd", "- 0 a", "a a-", "a- a0", "a0 aa", "9 a", "-- -0", "z zz zzz", "abcdefg abcdefgh", "10 9"} {
		up := strings.Fields(srcs)
		stampOk(t, marksOf(versOf(up)), true)
		down := slices.Clone(up)
		slices.Reverse(down)
		stampOk(t, marksOf(versOf(down)), false)
		for i := range up {
			stampOk(t, marksOf(versOf(slices.Insert(slices.Clone(up), i, up[i]))), false)
		}
	}
	for _, text := range []string{"a:1 a:1", "a:1 a:2", "a:2 a:1", "a:1 c:1 b:1", "b:1 a:1 c:1", "a:1 b:1 a:1", "ab:1 a:1"} {
		stampOk(t, marks(text), false)
	}
	full := wideMarks(12)
	full[11].Src = full[10].Src
	stampOk(t, full, false)
	full[11].Src = "a"
	stampOk(t, full, false)
}

func TestVersionsOfStamps(t *testing.T) {
	for _, n := range []int{math.MinInt, -1 << 40, -2, -1, 0, 1, 2, 1<<40 - 1, 1 << 40, 1<<40 + 1, 1 << 41, 1 << 50, math.MaxInt} {
		want := n >= 1 && n <= 1<<40
		stampOk(t, []impl.Mark{mark("a", n)}, want)
		stampOk(t, []impl.Mark{mark("a", n), mark("b", 1)}, want)
		stampOk(t, []impl.Mark{mark("a", 1), mark("b", n)}, want)
		full := wideMarks(12)
		full[11].Ver = n
		stampOk(t, full, want)
	}
}

func TestStampGet(t *testing.T) {
	s := marks("-:4 a:1 ab:2 x:1099511627776 z:3")
	for src, want := range map[string]int{
		"-": 4, "a": 1, "ab": 2, "x": 1 << 40, "z": 3,
		"": 0, "b": 0, "abc": 0, "y": 0, "zz": 0, "--": 0, "0": 0, "A": 0, "a ": 0, " a": 0, "a:1": 0, "ä": 0, "\xff": 0, "abcdefghi": 0,
	} {
		if got := impl.StampGet(s, src); got != want {
			t.Errorf("%q: %d, not %d", src, got, want)
		}
		if got := impl.StampGet(nil, src); got != 0 {
			t.Errorf("%q of the empty stamp: %d", src, got)
		}
	}
	full := wideMarks(12)
	if impl.StampGet(full, full[0].Src) != full[0].Ver || impl.StampGet(full, full[11].Src) != full[11].Ver {
		t.Error("twelve")
	}
	for _, bad := range noStamps {
		for _, m := range append(slices.Clone(bad), marks("x:1 y:2")...) {
			if got := impl.StampGet(bad, m.Src); got != 0 {
				t.Errorf("%v: %d of %q", bad, got, m.Src)
			}
		}
	}
}

// noStamps are no stamps, each for one reason; most have a mark that might be asked for.
var noStamps = [][]impl.Mark{
	marks("x:0"), marks("x:1 y:0"), marks("x:-1"), marks("x:1099511627777"), marks("x:1 y:1099511627777"), {mark("x", math.MinInt)}, {mark("x", math.MaxInt)},
	marks("y:1 x:1"), marks("x:1 x:1"), marks("x:1 x:2"), marks("x:2 x:1"), marks("xy:1 x:1"), marks("x:1 z:1 y:1"),
	{mark("", 1)}, {mark("", 1), mark("x", 1)}, {mark("abcdefghi", 1), mark("x", 1)}, {mark("X", 1), mark("x", 1)}, {mark("a b", 1), mark("x", 1)}, {mark("x", 1), mark("y\xff", 1)}, {mark("x", 1), mark("y:", 1)}, {{}},
	wideMarks(13), wideMarks(20),
}

func TestStampJoin(t *testing.T) {
	for _, c := range []struct{ a, b, want string }{
		{"", "", ""}, {"", "x:1", "x:1"}, {"x:1", "x:1", "x:1"}, {"x:1", "x:2", "x:2"}, {"x:1", "y:2", "x:1 y:2"}, {"x:1 y:2", "x:2 y:1", "x:2 y:2"},
		{"x:1 y:2", "x:2 z:1", "x:2 y:2 z:1"}, {"a:1 c:1 e:1", "b:2 d:2 f:2", "a:1 b:2 c:1 d:2 e:1 f:2"}, {"a:1 b:2", "c:3 d:4", "a:1 b:2 c:3 d:4"},
		{"a:1 ab:2", "a-:3 b:1", "a:1 a-:3 ab:2 b:1"}, {"x:1099511627776", "x:1", "x:1099511627776"}, {"a:1 b:5 c:1", "b:4", "a:1 b:5 c:1"}, {"a:9 b:1 c:9", "a:1 b:9 c:1", "a:9 b:9 c:9"},
	} {
		for _, p := range [][2]string{{c.a, c.b}, {c.b, c.a}} {
			if got, ok := impl.StampJoin(marks(p[0]), marks(p[1])); !ok || !sameMarks(got, marks(c.want)) {
				t.Errorf("%q and %q: %v %v", p[0], p[1], got, ok)
			}
		}
		holdBoth(t, marks(c.a), marks(c.b))
	}
}

// Sources in common count once; whether a join fits is seen whichever of its sources are told by which side.
func TestJoinsOfManySources(t *testing.T) {
	all := wideMarks(14)
	for n := 11; n <= 14; n++ {
		for split := range n + 1 {
			for both := range min(split, 4) {
				holdBoth(t, all[:split], all[split-both:n])
				if _, ok := impl.StampJoin(all[:split], all[split-both:n]); ok != (n <= 12 && split <= 12 && n-split+both <= 12) {
					t.Errorf("%d sources, %d of them on one side, %d on both: %v", n, split, both, ok)
				}
			}
		}
		var even, odd []impl.Mark
		for i, m := range all[:n] {
			if i%2 == 0 {
				even = append(even, m)
			} else {
				odd = append(odd, m)
			}
		}
		holdBoth(t, even, odd)
		if join, ok := impl.StampJoin(odd, even); ok != (n <= 12) || ok && !sameMarks(join, all[:n]) || !ok && len(join) > 0 {
			t.Errorf("%d by turns: %v %v", n, join, ok)
		}
	}
	holdBoth(t, wideMarks(12), wideMarks(12))
	holdBoth(t, wideMarks(12), marks("source00:1 source11:2"))
	holdBoth(t, wideMarks(12), marks("a:1"))
	holdBoth(t, wideMarks(12), marks("z:1"))
	holdBoth(t, wideMarks(11), marks("source0:1"))
	holdBoth(t, wideMarks(13), wideMarks(13))
}

func TestNoStampsAreHeldAgainstNothing(t *testing.T) {
	for _, bad := range noStamps {
		stampOk(t, bad, false)
		for _, good := range [][]impl.Mark{nil, marks("x:1"), marks("x:1 y:1"), wideMarks(12), bad} {
			for _, p := range [][2][]impl.Mark{{bad, good}, {good, bad}} {
				join, ok := impl.StampJoin(p[0], p[1])
				if ok || len(join) > 0 || impl.StampAgree(p[0], p[1]) || impl.StampOrder(p[0], p[1]) != impl.StampBad {
					t.Errorf("%v and %v: %v %v", p[0], p[1], join, ok)
				}
			}
		}
		if only := impl.StampOnly(bad, []string{"x", "y", "z", "", "source01"}); len(only) > 0 {
			t.Errorf("%v: only %v", bad, only)
		}
		if text := impl.StampText(bad); text != "" {
			t.Errorf("%v: %q", bad, text)
		}
	}
}

func TestStampOrderAndAgree(t *testing.T) {
	other := map[int]int{impl.StampSame: impl.StampSame, impl.StampLess: impl.StampMore, impl.StampMore: impl.StampLess, impl.StampApart: impl.StampApart}
	for _, c := range []struct {
		a, b  string
		order int
		agree bool
	}{
		{"", "", impl.StampSame, true}, {"", "x:1", impl.StampLess, true}, {"x:1", "x:1", impl.StampSame, true}, {"x:1", "x:2", impl.StampLess, false}, {"x:1", "y:1", impl.StampApart, true},
		{"x:1", "x:1 y:1", impl.StampLess, true}, {"y:1", "x:1 y:1", impl.StampLess, true}, {"x:1", "x:2 y:1", impl.StampLess, false}, {"x:2", "x:1 y:1", impl.StampApart, false},
		{"x:1 y:2", "x:2 y:1", impl.StampApart, false}, {"x:1 y:1", "x:1 y:2", impl.StampLess, false}, {"x:1 y:1", "x:2 y:2", impl.StampLess, false}, {"x:1 y:2 z:3", "x:1 y:2 z:3", impl.StampSame, true},
		{"a:1 b:1", "b:1 c:1", impl.StampApart, true}, {"a:1 b:1", "b:2 c:1", impl.StampApart, false}, {"a:1 b:1 c:1", "a:1 c:1", impl.StampMore, true}, {"a:1 c:1", "b:1", impl.StampApart, true},
		{"x:1 y:1 z:2", "x:1 y:1 z:1", impl.StampMore, false}, {"x:2 y:1 z:1", "x:1 y:1 z:1", impl.StampMore, false}, {"a:1 ab:1", "a:1 abc:1", impl.StampApart, true},
		{"x:1099511627775", "x:1099511627776", impl.StampLess, false}, {"x:1 y:1099511627776", "x:2 y:1099511627776", impl.StampLess, false},
	} {
		a, b := marks(c.a), marks(c.b)
		if got := impl.StampOrder(a, b); got != c.order {
			t.Errorf("%q and %q: %d, not %d", c.a, c.b, got, c.order)
		}
		if got := impl.StampOrder(b, a); got != other[c.order] {
			t.Errorf("%q and %q: %d, not %d", c.b, c.a, got, other[c.order])
		}
		if impl.StampAgree(a, b) != c.agree || impl.StampAgree(b, a) != c.agree {
			t.Errorf("%q and %q: agree %v %v", c.a, c.b, impl.StampAgree(a, b), impl.StampAgree(b, a))
		}
		holdBoth(t, a, b)
	}
}

func TestStampOnly(t *testing.T) {
	s := marks("-:4 a:1 ab:2 x:9 z:3")
	for _, c := range []struct {
		names []string
		want  string
	}{
		{nil, ""}, {[]string{}, ""}, {[]string{"q"}, ""}, {[]string{"x"}, "x:9"}, {[]string{"x", "x"}, "x:9"}, {[]string{"z", "q", "x", "x", "-"}, "-:4 x:9 z:3"},
		{[]string{"z", "x", "ab", "a", "-"}, "-:4 a:1 ab:2 x:9 z:3"}, {[]string{"", "A", "ab ", "a:1", "abc", "\xff", "abcdefghi"}, ""}, {[]string{"", "a", "a:1"}, "a:1"}, {slices.Repeat([]string{"q", "ab"}, 500), "ab:2"},
	} {
		if got := impl.StampOnly(s, c.names); !sameMarks(got, marks(c.want)) {
			t.Errorf("%.80q: %v", c.names, got)
		}
		if got := impl.StampOnly(nil, c.names); len(got) > 0 {
			t.Errorf("%.80q of the empty stamp: %v", c.names, got)
		}
	}
}

func TestStampsAgainstModel(t *testing.T) {
	r := rand.New(rand.NewSource(200))
	orders := [5]int{}
	for range 20000 {
		a, b := turnedMarks(r), turnedMarks(r)
		if r.Intn(3) == 0 {
			b = slices.Clone(a)
			if len(b) > 0 {
				b[r.Intn(len(b))].Ver += r.Intn(3) - 1
				b[r.Intn(len(b))].Ver += r.Intn(3) - 1
			}
		}
		stampOk(t, a, modelStampOk(a))
		holdBoth(t, a, b)
		orders[impl.StampOrder(a, b)]++
		var names []string
		for range r.Intn(8) {
			names = append(names, manySources[r.Intn(len(manySources))])
		}
		if got := impl.StampOnly(a, names); !sameMarks(got, modelOnly(a, names)) {
			t.Fatalf("%v: only %v of %q", a, got, names)
		}
		for _, name := range names {
			want := 0
			if modelStampOk(a) {
				want = versionsOf(a)[name]
			}
			if got := impl.StampGet(a, name); got != want {
				t.Fatalf("%v: %d of %q", a, got, name)
			}
		}
	}
	for order, n := range orders {
		if n < 200 {
			t.Errorf("%d times %d", n, order)
		}
	}
}

func stampReads(t *testing.T, text string, want []impl.Mark, wantOk bool) {
	t.Helper()
	if s, ok := impl.StampRead(text); ok != wantOk || !sameMarks(s, want) {
		t.Errorf("%.90q: %v %v, not %v %v", text, s, ok, want, wantOk)
	}
	if s, ok := modelStampRead(text); ok != wantOk || !sameMarks(s, want) {
		t.Errorf("%.90q: the model reads %v %v, not %v %v", text, s, ok, want, wantOk)
	}
	if wantOk && impl.StampText(want) != text {
		t.Errorf("%.90q is written %q", text, impl.StampText(want))
	}
}

func noStampText(t *testing.T, text string) {
	t.Helper()
	stampReads(t, text, nil, false)
}

var someStamps = []struct {
	text string
	s    []impl.Mark
}{
	{"-", nil}, {"x:1", []impl.Mark{mark("x", 1)}}, {"-:1", []impl.Mark{mark("-", 1)}}, {"0:10", []impl.Mark{mark("0", 10)}}, {"--------:9", []impl.Mark{mark("--------", 9)}}, {"1:1", []impl.Mark{mark("1", 1)}},
	{"x:1099511627776", []impl.Mark{mark("x", 1<<40)}}, {"x:1 y:2", []impl.Mark{mark("x", 1), mark("y", 2)}}, {"a:3 a-:2 a0:1 aa:100", []impl.Mark{mark("a", 3), mark("a-", 2), mark("a0", 1), mark("aa", 100)}},
	{"-:5 --:4 0:3 a:2", []impl.Mark{mark("-", 5), mark("--", 4), mark("0", 3), mark("a", 2)}},
}

func TestStampsAreWrittenAndRead(t *testing.T) {
	for _, c := range someStamps {
		stampReads(t, c.text, c.s, true)
		stampOk(t, c.s, true)
	}
	if text := impl.StampText([]impl.Mark{}); text != "-" {
		t.Errorf("%q", text)
	}
	var words []string
	var full []impl.Mark
	for i := range 13 {
		words = append(words, fmt.Sprintf("source%02d:1099511627776", i))
		full = append(full, mark(fmt.Sprintf("source%02d", i), 1<<40))
	}
	longest := strings.Join(words[:12], " ")
	if len(longest) != 275 {
		t.Error(len(longest))
	}
	stampReads(t, longest, full[:12], true)
	noStampText(t, strings.Join(words, " "))
	noStampText(t, longest+" ")
	noStampText(t, longest+" -")
}

func TestTextsOfNoStamps(t *testing.T) {
	for _, text := range []string{
		"", " ", "  ", "x", "1", "--", "- ", " -", "- -", "-\n", "x:1 -", "- x:1", "-x:1 -", "+",
		// numbers
		"x:", "x:0", "x:00", "x:01", "x:+1", "x:-1", "x:-0", "x:1.0", "x:1e1", "x:0x1", "x:1_0", "x:y", "x:1y", "x:١", "x:１", "x:--1", "x:1-", "x:1+",
		"x:1099511627777", "x:9223372036854775807", "x:9223372036854775808", "x:18446744073709551616", "x:18446744073709551617", "x:-18446744073709551615", "x:340282366920938463463374607431768211457", "x:4294967297999", "x:01099511627776",
		// blanks
		"x:1 ", " x:1", "x:1  y:1", "x:1\ty:1", "x:1\ny:1", "x:1\n", "\nx:1", "x:1\r", "x:1\u00a0y:1", "x:1\u2003y:1", "x:1\x00", "x :1", "x: 1", "x:1 y :1", "x:1 y: 1", "x:1, y:1", "x:1,y:1", "x:1y:1",
		// colons
		":", ":1", "::", "x::1", "x:1:", ":x:1", "x:1:2", "x1", "x;1", "x：1", "x:1 y", "x y:1", "x:1 :1", "x:1 y1", "x:1 :", "x:y:1", "x=1",
		// sources
		"X:1", "abcdefghi:1", "a_b:1", "ä:1", "\xff:1", "a\xc3:1", "\ufffd:1", "x:\xff", "x:1\xff", "x:1 \xff", "a.b:1", "x\x00:1", "+x:1", "x:1 Y:1", "x:1 abcdefghi:1",
		// order
		"y:1 x:1", "x:1 x:1", "x:1 x:2", "ab:1 a:1", "a:1 c:1 b:1", "a:1 -:1", "b:1 a:1 c:1",
	} {
		noStampText(t, text)
	}
}

// No stamp's text is so long; what is just as long as may be, and what is longer, is none.
func TestLongTextsOfStamps(t *testing.T) {
	for _, size := range []int{275, 276, 399, 400, 401, 402, 4000, 100000} {
		room := size - len("x:1")
		noStampText(t, "x:1"+strings.Repeat(" ", room))
		noStampText(t, strings.Repeat(" ", room)+"x:1")
		noStampText(t, strings.Repeat("x", room)+"x:1")
		noStampText(t, "x:"+strings.Repeat("0", room)+"1")
		noStampText(t, "x:1"+strings.Repeat("0", room))
		noStampText(t, strings.Repeat("-", size))
		noStampText(t, strings.Repeat(":", size))
		noStampText(t, strings.Repeat("\xff", size))
		var many []string
		for i := 0; len(many)*6+5 <= size && i < 900; i++ {
			many = append(many, fmt.Sprintf("a%02d:1", i))
		}
		noStampText(t, strings.Join(many, " "))
	}
}

// Each text with one byte left out, doubled, or another one.
func TestTextsOfStampsWithAByteTurned(t *testing.T) {
	for _, c := range someStamps {
		for at := range len(c.text) {
			texts := []string{c.text[:at] + c.text[at+1:], c.text[:at+1] + c.text[at:]}
			for b := range 256 {
				texts = append(texts, c.text[:at]+string([]byte{byte(b)})+c.text[at+1:])
			}
			for _, text := range texts {
				want, ok := modelStampRead(text)
				stampReads(t, text, want, ok)
			}
		}
	}
}

func TestTextsOfStampsAgainstModel(t *testing.T) {
	r := rand.New(rand.NewSource(201))
	words := []string{"x:1", "y:2", "z:1099511627776", "a:1", "a:2", "-:1", "-", "", "x:0", "x:01", "y", ":1", "y:1099511627777", "y:18446744073709551617", "abcdefgh:5", "abcdefghi:5", "X:1", "y:2:3"}
	read := 0
	for range 20000 {
		var list []string
		for range 1 + r.Intn(4) {
			at := r.Intn(len(words))
			if r.Intn(3) > 0 {
				at = r.Intn(6)
			}
			list = append(list, words[at])
		}
		if r.Intn(3) > 0 {
			slices.Sort(list)
		}
		text := strings.Join(list, " ")
		want, ok := modelStampRead(text)
		stampReads(t, text, want, ok)
		read += oneIf(ok)
	}
	if read < 2000 || read > 18000 {
		t.Fatal(read)
	}
}
