package tests

import (
	"fmt"
	"math/rand"
	"slices"
	"strings"
	"testing"

	"loop.example/headrace/impl"
)

// lineReads holds SayFrom against what is told and the model.
func lineReads(t *testing.T, line string, want impl.Say, wantOk bool) {
	t.Helper()
	if s, ok := impl.SayFrom(line); !sameSay(s, want) || ok != wantOk {
		t.Errorf("%q: %+v %v, not %+v %v", line, s, ok, want, wantOk)
	}
	if s, ok := modelSayFrom(line); !sameSay(s, want) || ok != wantOk {
		t.Errorf("%q: the model reads %+v %v, not %+v %v", line, s, ok, want, wantOk)
	}
}

func noLine(t *testing.T, line string) {
	t.Helper()
	lineReads(t, line, impl.Say{}, false)
}

var someLines = []struct {
	line string
	s    impl.Say
}{
	{"1 2 asks x", ask(1, 2, "x")},
	{"0 9 gone s-1", gone(0, 9, "s-1")},
	{"9 0 asks asks", ask(9, 0, "asks")},
	{"3 4 gone 01234567", gone(3, 4, "01234567")},
	{"1 2 asks -", ask(1, 2, "-")},
	{"1 2 gone 0", gone(1, 2, "0")},
	{"1 2 tells x 0 x:1", tell(1, 2, "x", 0, ver("x", 1))},
	{"1 2 tells x -1 x:1", tell(1, 2, "x", -1, ver("x", 1))},
	{"1 2 tells x 10 0:10 1:100", tell(1, 2, "x", 10, ver("0", 10), ver("1", 100))},
	{"3 4 tells sum -9223372036854775808 x:1 y:1099511627776", tell(3, 4, "sum", -9223372036854775808, ver("x", 1), ver("y", 1<<40))},
	{"3 4 tells sum 9223372036854775807 -:1 --:2 -0:3", tell(3, 4, "sum", 9223372036854775807, ver("-", 1), ver("--", 2), ver("-0", 3))},
	{"8 7 tells tells 5 a:1 ab:1 abc:1", tell(8, 7, "tells", 5, ver("a", 1), ver("ab", 1), ver("abc", 1))},
}

func TestLinesOfWords(t *testing.T) {
	for _, c := range someLines {
		if got := impl.SayLine(c.s); got != c.line {
			t.Errorf("%+v: %q, not %q", c.s, got, c.line)
		}
		lineReads(t, c.line, c.s, true)
	}
	for _, s := range wholeSays {
		lineReads(t, impl.SayLine(s), s, true)
	}
	if line := impl.SayLine(greatestSay); len(line) != 315 || !strings.HasPrefix(line, "9 8 tells abcdefgh -9223372036854775808 source00:1099511627776 source01:1099511627775 ") {
		t.Errorf("%d %q", len(line), line)
	}
	for _, s := range []impl.Say{{}, ask(1, 1, "x"), ask(1, 10, "x"), ask(-1, 1, "x"), ask(1, 2, ""), ask(1, 2, "A"), gone(1, 2, "a b"), tell(1, 2, "x", 5), tell(1, 2, "x", 5, ver("x", 0)), tell(1, 2, "x", 5, fullStamp(13)...), {Kind: 4, From: 1, To: 2, Name: "x"}, {Kind: 1, From: 1, To: 2, Name: "x", Val: 1}} {
		if line := impl.SayLine(s); line != "" {
			t.Errorf("%+v: %q", s, line)
		}
	}
}

func TestLinesOfNoWords(t *testing.T) {
	for _, line := range []string{
		"", " ", "  ", "   ", "    ", "x", "1", "1 2", "1 2 asks", "1 2 gone", "1 2 tells", "1 2 tells x", "1 2 tells x 5", "1 2 tells x x:1", "1 2 tells 5 x:1", "1 2 x", "asks x", "1 asks x", "2 asks x",
		// blanks
		"1 2 asks x ", " 1 2 asks x", "1  2 asks x", "1 2  asks x", "1 2 asks  x", "1 2 asks ", "1 2 tells x 5 x:1 ", "1 2 tells x 5  x:1", "1 2 tells x  5 x:1", "1 2 tells x 5 ", "1\t2 asks x", "1 2 asks\nx", "1 2 asks x\n", "1 2 asks x\r", "\n1 2 asks x", "1\u00a02 asks x", "1 2 asks\u2003x", "1\x002 asks x", "1 2 tells x 5 x: 1", "1 2 tells x 5 x :1", "1 2 tells x - 5 x:1",
		// numbers of nodes
		"01 2 asks x", "1 02 asks x", "+1 2 asks x", "1 +2 asks x", "-1 2 asks x", "1 -2 asks x", "-0 2 asks x", "00 2 asks x", "1 1 asks x", "0 0 gone x", "1 10 asks x", "10 1 asks x", "1 18446744073709551618 asks x", "4294967297 2 asks x", "18446744073709551617 2 asks x", "a 2 asks x", "1 b asks x", "1.0 2 asks x", "0x1 2 asks x", "1_ 2 asks x", "١ 2 asks x", "1 ２ asks x",
		// words of the language
		"1 2 ask x", "1 2 asksx", "1 2 Asks x", "1 2 ASKS x", "1 2 tell x 5 x:1", "1 2 goes x", "1 2 gone", "1 2 1 x", "1 2 asks. x", "1 2  x", "1 2 asks\x00 x", "1 2 said x", "1 2 says x",
		// names
		"1 2 asks X", "1 2 asks abcdefghi", "1 2 gone a_b", "1 2 asks \xff", "1 2 asks a\xc3", "1 2 asks ä", "1 2 asks \ufffd", "\xff 2 asks x", "1 2 asks x\xff", "1 2 tells x 5 \xff:1", "1 2 tells x 5 x:\xff", "1 2 tells x \xff x:1", "1 2 asks x:1", "1 2 tells ä 5 x:1", "1 2 asks +x",
		// too many words
		"1 2 asks x 5", "1 2 asks x 0", "1 2 asks x 0 x:1", "1 2 asks x x", "1 2 gone x 5", "1 2 gone x 0", "1 2 gone x x:1", "0 1 2 asks x", "1 2 asks x y", "1 2 tells x 5 x:1 6", "1 2 tells x 5 x:1 y", "1 2 tells x 5 5 x:1",
		// values
		"1 2 tells x -0 x:1", "1 2 tells x +5 x:1", "1 2 tells x 05 x:1", "1 2 tells x 00 x:1", "1 2 tells x -05 x:1", "1 2 tells x --5 x:1", "1 2 tells x - x:1", "1 2 tells x 5- x:1", "1 2 tells x 5.0 x:1", "1 2 tells x 5e1 x:1", "1 2 tells x 0x5 x:1", "1 2 tells x 1_000 x:1",
		"1 2 tells x 9223372036854775808 x:1", "1 2 tells x -9223372036854775809 x:1", "1 2 tells x 18446744073709551616 x:1", "1 2 tells x 18446744073709551621 x:1", "1 2 tells x -18446744073709551611 x:1", "1 2 tells x 99999999999999999999999999999999999 x:1",
		// versions
		"1 2 tells x 5 x:0", "1 2 tells x 5 x:-1", "1 2 tells x 5 x:-0", "1 2 tells x 5 x:+1", "1 2 tells x 5 x:01", "1 2 tells x 5 x:", "1 2 tells x 5 :1", "1 2 tells x 5 :", "1 2 tells x 5 x", "1 2 tells x 5 x1", "1 2 tells x 5 x::1", "1 2 tells x 5 x:1:", "1 2 tells x 5 :x:1", "1 2 tells x 5 x:1:2", "1 2 tells x 5 x;1", "1 2 tells x 5 x：1", "1 2 tells x 5 x:y",
		"1 2 tells x 5 x:1099511627777", "1 2 tells x 5 x:18446744073709551617", "1 2 tells x 5 x:9223372036854775808", "1 2 tells x 5 x:1 x:1", "1 2 tells x 5 x:1 x:2", "1 2 tells x 5 y:1 x:1", "1 2 tells x 5 ab:1 a:1", "1 2 tells x 5 X:1", "1 2 tells x 5 abcdefghi:1", "1 2 tells x 5 x:1y:2", "1 2 tells x 5 x:1,y:2",
	} {
		noLine(t, line)
	}
	thirteen := tell(1, 2, "x", 5, fullStamp(13)...)
	noLine(t, modelLine(thirteen))
	lineReads(t, modelLine(tell(1, 2, "x", 5, fullStamp(12)...)), tell(1, 2, "x", 5, fullStamp(12)...), true)
}

// No line is so long; what is just as long as may be, and what is longer, is none.
func TestLongLines(t *testing.T) {
	for _, size := range []int{399, 400, 401, 402, 4000} {
		for _, line := range []string{"1 2 asks x", "1 2 tells x 5 x:1"} {
			room := size - len(line)
			noLine(t, line+strings.Repeat(" ", room))
			noLine(t, strings.Repeat(" ", room)+line)
			noLine(t, line+strings.Repeat("1", room))
			noLine(t, strings.Repeat("0", room)+line)
		}
		many := "1 2 tells x 5"
		for i := 0; len(many)+6 <= size; i++ {
			many += fmt.Sprintf(" a%02d:1", i)
		}
		noLine(t, many)
		noLine(t, "1 2 tells x "+strings.Repeat("0", size-16)+" x:1")
		noLine(t, strings.Repeat("x", size))
		noLine(t, strings.Repeat("\xff", size))
	}
}

// Each line with one byte left out, doubled, or another one.
func TestLinesWithAByteTurned(t *testing.T) {
	for _, c := range someLines {
		for at := range len(c.line) {
			lines := []string{c.line[:at] + c.line[at+1:], c.line[:at+1] + c.line[at:]}
			for b := range 256 {
				lines = append(lines, c.line[:at]+string([]byte{byte(b)})+c.line[at+1:])
			}
			for _, line := range lines {
				want, ok := modelSayFrom(line)
				lineReads(t, line, want, ok)
				if ok && impl.SayLine(want) != line {
					t.Errorf("%q is read as %+v", line, want)
				}
			}
		}
	}
}

func TestLinesAgainstModel(t *testing.T) {
	r := rand.New(rand.NewSource(160))
	words := []string{"0", "1", "2", "9", "10", "-1", "01", "+1", "-0", "asks", "tells", "gone", "x", "abcdefgh", "x:1", "y:2", "x:0", "z:", ":", "", "a", "A", "9223372036854775808", "-9223372036854775808"}
	read := 0
	for range 20000 {
		line := []string{"1", "2", "tells", "x", "5", "x:1"}[:4+r.Intn(3)]
		if r.Intn(2) == 0 {
			line[2] = []string{"asks", "gone"}[r.Intn(2)]
		}
		line = slices.Clone(line)
		for range r.Intn(3) {
			line[r.Intn(len(line))] = words[r.Intn(len(words))]
		}
		if r.Intn(3) == 0 {
			line = append(line, words[r.Intn(len(words))])
		}
		text := strings.Join(line, " ")
		want, ok := modelSayFrom(text)
		lineReads(t, text, want, ok)
		read += oneIf(ok)
	}
	if read < 2000 {
		t.Fatal(read)
	}
	for range 4000 {
		s := turnedSay(r)
		if !modelSayOk(s) {
			if line := impl.SayLine(s); line != "" {
				t.Fatalf("%+v: %q", s, line)
			}
			continue
		}
		lineReads(t, modelLine(s), s, true)
	}
}
