package tests

import (
	"fmt"
	"math/rand"
	"slices"
	"strings"
	"testing"

	"loop.example/headrace/impl"
)

// tells holds HeadRun against the model and what is wanted: a text a line, with `|` between two.
func tells(t *testing.T, text, want string) {
	t.Helper()
	if want != "" {
		want = strings.ReplaceAll(want, "|", "\n") + "\n"
	}
	if got := impl.HeadRun(text); got != want || modelHead(text) != want {
		t.Errorf("%q tells\n%q, not\n%q (%q)", text, got, want, modelHead(text))
	}
}

// toldBehind holds what the last line tells behind others.
func toldBehind(t *testing.T, ahead, line, want string) {
	t.Helper()
	got := impl.HeadRun(ahead + "\n" + line)
	if model := modelHead(ahead + "\n" + line); got != model || !strings.HasSuffix("\n"+got, "\n"+want+"\n") {
		t.Errorf("%q tells\n%q, not\n%q (%q)", line, got, model, want)
	}
}

func TestHeadExample(t *testing.T) {
	text := "source 0 x\ndefine 1 d x * 2\nset x 5\ntick 1\nway\ngive 0\ngive 0\nread d\nfall 0 0\nrise 0 -1\nset x 6\ntick 1\ngive 0\ngive 0\nread d\ncalm\n"
	want := "ok\nok\nok\nok\n1 0 asks x\nok\nok\n10 @ x:1\nok\nok\nok\nok\nok\nok\n12 @ x:9\nyes\n"
	for _, text := range []string{text, strings.TrimSuffix(text, "\n"), "\n\n" + strings.ReplaceAll(text, "\n", "\n\n")} {
		if got := impl.HeadRun(text); got != want || modelHead(text) != want {
			t.Errorf("%q tells %q", text, got)
		}
	}
}

// headWorld is a world in which much can be done: three nodes, of which the last one is down.
const headWorld = "source 0 x\nsource 1 y\ndefine 1 d x * 2\ndefine 0 e d + y\nsource 2 w\nsource 0 old\nremove old\nset x 5\nset y 7\ntick 1\ntick 0\ngive 0\ngive 0\ngive 0\ngive 0\ngive 0\nfall 2 0"

func TestLinesThatDoSomething(t *testing.T) {
	tells(t, headWorld+"\nway\nread x\nread y\nread d\nread e", strings.Repeat("ok|", 17)+"1 0 tells d 10 x:1|5 @ x:1|7 @ y:1|10 @ x:1|no")
	for _, c := range []struct{ line, want string }{
		{"source 0 a", "ok"}, {"source 1 abcdefgh", "ok"}, {"source 0 x", "no"}, {"source 0 old", "no"}, {"source 2 a", "no"}, {"source 3 a", "no"}, {"source -1 a", "no"}, {"source 4 a", "no"}, {"source 5 a", "no"}, {"source 9223372036854775807 a", "no"}, {"source 0 A", "no"}, {"source 0 ", "no"}, {"source 0 if", "no"},
		{"define 0 a x + 1", "ok"}, {"define 1 a d*y", "ok"}, {"define 1 a   x   ", "ok"}, {"define 1 a ", "ok"}, {"define 0  ", "no"}, {"define 0  x", "no"}, {"define 0 a  ", "no"}, {"define 0 a x +", "no"}, {"define 0 a 1", "no"}, {"define 0 a a", "no"}, {"define 0 a none", "no"}, {"define 2 a x", "no"}, {"define 3 a x", "no"}, {"define -1 a x", "no"}, {"define 0 x y", "no"}, {"define 0 a let q = x in q * q", "ok"}, {"define 0 a " + strings.Repeat(" ", 199) + "x", "ok"}, {"define 0 a " + strings.Repeat(" ", 200) + "x", "no"},
		{"remove e", "ok"}, {"remove x", "no"}, {"remove old", "no"}, {"remove none", "no"}, {"remove ", "no"}, {"remove w", "no"},
		{"set x 1", "ok"}, {"set x -9223372036854775808", "ok"}, {"set x 9223372036854775807", "ok"}, {"set y 0", "ok"}, {"set d 1", "no"}, {"set w 1", "no"}, {"set none 1", "no"}, {"set  1", "no"}, {"set old 1", "no"},
		{"tick 0", "ok"}, {"tick 1", "ok"}, {"tick 2", "no"}, {"tick 3", "no"}, {"tick -1", "no"},
		{"give 0", "ok"}, {"give 1", "no"}, {"give -1", "no"}, {"lose 0", "ok"}, {"lose 1", "no"}, {"lose -1", "no"}, {"copy 0", "ok"}, {"copy 1", "no"}, {"copy -1", "no"},
		{"fuse 0 0", "ok"}, {"fuse 0 -1", "ok"}, {"fuse 1 400", "ok"}, {"fuse 1 401", "no"}, {"fuse 1 -2", "no"}, {"fuse 2 0", "no"}, {"fuse 3 0", "no"}, {"fuse -1 0", "no"},
		{"fall 0 0", "ok"}, {"fall 1 9223372036854775807", "ok"}, {"fall 0 -1", "no"}, {"fall 2 0", "no"}, {"fall 3 0", "no"}, {"fall -1 0", "no"},
		{"rise 2 -1", "ok"}, {"rise 2 0", "ok"}, {"rise 2 400", "ok"}, {"rise 2 401", "no"}, {"rise 2 -2", "no"}, {"rise 0 -1", "no"}, {"rise 3 -1", "no"}, {"rise -1 -1", "no"},
		{"fair", "ok"},
	} {
		toldBehind(t, headWorld, c.line, c.want)
		// and what it did is there
		rest := "\nway\nread x\nread y\nread d\nread e\nread a\ncalm\nfair\nread a\nread e\ncalm\nsource 0 a\nrise 2 -1\nset w 3\nread w"
		if got, want := impl.HeadRun(headWorld+"\n"+c.line+rest), modelHead(headWorld+"\n"+c.line+rest); got != want {
			t.Errorf("%q:\n%q, not\n%q", c.line, got, want)
		}
	}
}

func TestLinesThatFell(t *testing.T) {
	for _, c := range []struct{ ahead, line string }{
		{"fuse 0 3", "source 0 a"}, {"fuse 1 3", "define 1 a x + 1"}, {"fuse 0 2", "remove e"}, {"fuse 0 9", "set x 1"}, {"fuse 0 13", "set x 1"}, {"fall 0 0\nrise 0 4", "tick 0"}, {"fuse 0 3\nset x 4", "rise 0 0"},
	} {
		toldBehind(t, headWorld+"\n"+c.ahead, c.line, "fell")
		rest := "\nway\nrise 0 -1\nrise 1 -1\nfair\nread x\nread e\nread d\nread a\nsource 0 a\nsource 0 e\ncalm"
		if got, want := impl.HeadRun(headWorld+"\n"+c.ahead+"\n"+c.line+rest), modelHead(headWorld+"\n"+c.ahead+"\n"+c.line+rest); got != want {
			t.Errorf("%q:\n%q, not\n%q", c.line, got, want)
		}
	}
	// a round tells that it is done, even if a node falls in it
	toldBehind(t, headWorld+"\nfall 0 0\nrise 0 4", "fair", "ok")
	toldBehind(t, headWorld+"\nfall 0 0\nrise 0 4\nfair", "tick 0", "no")
}

func TestLinesThatTellSomething(t *testing.T) {
	for _, c := range []struct{ ahead, line, want string }{
		{headWorld, "read x", "5 @ x:1"}, {headWorld, "read d", "10 @ x:1"}, {headWorld, "read e", "no"}, {headWorld, "read w", "no"}, {headWorld, "read none", "no"}, {headWorld, "read old", "no"}, {headWorld, "read ", "no"}, {headWorld, "read X", "no"},
		{headWorld + "\ngive 0\nfair", "read e", "17 @ x:1 y:1"}, {headWorld + "\nset x -3", "read x", "-3 @ x:2"},
		{headWorld + "\nset x -9223372036854775808", "read x", "-9223372036854775808 @ x:2"},
		{headWorld, "reads 0 x", "5 @ x:1"}, {headWorld, "reads 1 y d", "7 10 @ x:1 y:1"}, {headWorld, "reads 1 d y d", "10 7 10 @ x:1 y:1"}, {headWorld, "reads 0 x x x", "5 5 5 @ x:1"},
		{headWorld, "reads 0 d", "no"}, {headWorld, "reads 0 x e", "no"}, {headWorld, "reads 1 x", "no"}, {headWorld, "reads 2 w", "no"}, {headWorld, "reads 3 x", "no"}, {headWorld, "reads -1 x", "no"}, {headWorld, "reads 9223372036854775807 x", "no"},
		{headWorld, "reads 0 ", "no"}, {headWorld, "reads 0 x ", "no"}, {headWorld, "reads 0  x", "no"}, {headWorld, "reads 0" + strings.Repeat(" x", 16), strings.Repeat("5 ", 16) + "@ x:1"}, {headWorld, "reads 0" + strings.Repeat(" x", 17), "no"},
		{headWorld, "reads 0", "?"}, {headWorld, "reads", "?"}, {headWorld, "reads x", "?"}, {headWorld, "reads x x", "?"}, {headWorld, "reads 00 x", "?"}, {headWorld, "reads  x", "?"}, {headWorld, "reads 9223372036854775808 x", "?"},
		{headWorld + "\ngive 0\nfair\nset x 6", "reads 0 x e", "no"}, // not of one time
		{"", "way", "-"}, {headWorld, "way", "1 0 tells d 10 x:1"}, {headWorld + "\ntick 0\ncopy 0", "way", "1 0 tells d 10 x:1; 0 1 tells x 5 x:1; 0 1 asks d; 0 1 asks y; 1 0 tells d 10 x:1"}, {headWorld + "\nlose 0", "way", "-"},
		{"", "calm", "yes"}, {headWorld, "calm", "no"}, {headWorld + "\nfair", "calm", "yes"},
	} {
		toldBehind(t, c.ahead, c.line, c.want)
		// telling does nothing
		if got, want := impl.HeadRun(c.ahead+"\n"+c.line+"\n"+c.line+"\nway\ncalm\nread x"), impl.HeadRun(c.ahead+"\n"+c.line+"\nway\ncalm\nread x"); !strings.HasSuffix(got, want[len(impl.HeadRun(c.ahead)):]) {
			t.Errorf("%q: %q, not %q", c.line, got, want)
		}
	}
}

func TestLinesThatAreNone(t *testing.T) {
	good := []string{"source 0 a", "define 0 a x", "remove e", "set x 1", "tick 0", "give 0", "lose 0", "copy 0", "fuse 0 0", "fall 0 0", "rise 2 0", "fair", "read x", "reads 0 x", "way", "calm"}
	none := []string{" ", "  ", "?", "hello", "0", "x", "SOURCE 0 a", "sources 0 a", "junk z", "\t", "way\r", "fair\x00", "\xff", "é 1", "-", "define", "source", "remove", "set", "tick", "give", "lose", "copy", "fuse", "fall", "rise", "read", "reads"}
	for _, line := range good {
		words := strings.Split(line, " ")
		none = append(none, " "+line, strings.ToUpper(line), words[0]+"x"+line[len(words[0]):])
		if len(words) > 1 {
			none = append(none, words[0], strings.Replace(line, " ", "  ", 1), strings.Replace(line, " ", "\t", 1))
		}
		// more words than told, or an empty one at the end; of define and reads there may be more
		if words[0] != "define" && words[0] != "reads" {
			none = append(none, line+" ", line+" x", line+" 1", line+"  ")
		}
		if len(words) > 2 {
			none = append(none, strings.Join(words[:2], " "))
		}
		for i, word := range words {
			if word == "0" || word == "1" || word == "2" {
				for _, num := range []string{"", "a", "00", "01", "+0", "+1", "-0", "-", "--1", "1-", "0x1", "1.0", "1e3", "1_0", "٣", "9223372036854775808", "-9223372036854775809", "99999999999999999999", "18446744073709551616", "-01", "1\t"} {
					bent := slices.Clone(words)
					bent[i] = num
					none = append(none, strings.Join(bent, " "))
				}
			}
		}
	}
	plain := impl.HeadRun(headWorld + "\nway\nread x\ncalm")
	ahead := len(impl.HeadRun(headWorld))
	for _, line := range none {
		got := impl.HeadRun(headWorld + "\n" + line + "\nway\nread x\ncalm")
		if want := plain[:ahead] + "?\n" + plain[ahead:]; got != want {
			t.Errorf("%q tells %q", line, got[ahead:])
		}
		if model := modelHead(headWorld + "\n" + line + "\nway\nread x\ncalm"); got != model {
			t.Errorf("%q tells %q, not %q", line, got, model)
		}
	}
	if len(none) < 300 {
		t.Error(len(none))
	}
}

// Empty words are words where a name is told, and numbers are of 64 bits.
func TestWordsOfLines(t *testing.T) {
	for _, c := range []struct{ line, want string }{
		{"source 0 ", "no"}, {"source 0  ", "?"}, {"source  x", "?"}, {"source  ", "?"}, {"source ", "?"},
		{"remove ", "no"}, {"remove  ", "?"}, {"remove  x", "?"}, {"read ", "no"}, {"read  ", "?"},
		{"set  5", "no"}, {"set x ", "?"}, {"set  ", "?"}, {"set x  5", "?"}, {"set x 5 ", "?"},
		{"define 0  ", "no"}, {"define 0 ", "?"}, {"define 0 k ", "ok"}, {"define 0 k", "?"}, {"define  k x", "?"}, {"define 0  k x", "no"},
		{"reads 0  ", "no"}, {"reads 0 ", "no"}, {"reads ", "?"}, {"reads  ", "?"},
		{"tick ", "?"}, {"tick 0 ", "?"}, {"fuse 0", "?"}, {"fuse 0 ", "?"}, {"fuse 0  1", "?"}, {"fuse  0 1", "?"}, {"fuse 0 1 1", "?"},
		{"set x -1", "ok"}, {"set x -0", "?"}, {"set x 00", "?"}, {"set x 0", "ok"}, {"set x 9223372036854775807", "ok"}, {"set x 9223372036854775808", "?"}, {"set x -9223372036854775808", "ok"}, {"set x -9223372036854775809", "?"},
		{"tick 9223372036854775807", "no"}, {"tick 9223372036854775808", "?"}, {"tick -9223372036854775808", "no"}, {"tick -9223372036854775809", "?"},
		{"give 9223372036854775807", "no"}, {"give -9223372036854775808", "no"}, {"fuse 0 9223372036854775808", "?"}, {"fuse 0 9223372036854775807", "no"},
	} {
		toldBehind(t, "source 0 x", c.line, c.want)
	}
}

func TestTextsOfTheHead(t *testing.T) {
	tells(t, "", "")
	tells(t, "\n", "")
	tells(t, "\n\n\n", "")
	tells(t, "way", "-")
	tells(t, "way\n", "-")
	tells(t, "\nway", "-")
	tells(t, "way\n\n\nway\n", "-|-")
	tells(t, "way\n \nway", "-|?|-")
	tells(t, "way\r\nway", "?|-")
	// lines: an empty text is one, and what stands behind a last byte 10 is one, too
	for _, line := range []string{"", "way", "calm", "?"} {
		for _, n := range []int{1, 2, 119, 120, 121, 122} {
			text := strings.TrimSuffix(strings.Repeat(line+"\n", n), "\n")
			got := impl.HeadRun(text)
			if long := n > impl.HeadMaxLines; long != (got == "long\n") || got != modelHead(text) || !long && strings.Count(got, "\n") != n*oneIf(line != "") {
				t.Errorf("%d lines %q: %q", n, line, got)
			}
			if got := impl.HeadRun(text + "\n"); (got == "long\n") != (n+1 > impl.HeadMaxLines) || got != modelHead(text+"\n") {
				t.Errorf("%d lines %q: %q", n+1, line, got)
			}
		}
	}
	// bytes
	for _, n := range []int{5999, 6000, 6001, 9000} {
		for _, text := range []string{strings.Repeat("x", n), "way\n" + strings.Repeat("y", n-4), strings.Repeat(" ", n), "define 0 a " + strings.Repeat("x", n-11), strings.Repeat("\xff", n), "reads 0 " + strings.Repeat(" ", n-8)} {
			got := impl.HeadRun(text)
			if long := n > impl.HeadMaxText; long != (got == "long\n") || got != modelHead(text) {
				t.Errorf("%d bytes: %q", n, got)
			}
		}
	}
	// both at once, and each with the other one met exactly
	full := strings.Repeat("way\n", 119)
	tells(t, full+strings.Repeat("z", 6000-len(full)), strings.Repeat("-|", 119)+"?")
	tells(t, full+strings.Repeat("z", 6001-len(full)), "long")
	tells(t, full+"\n"+strings.Repeat("z", 5999-len(full)), "long")
	tells(t, full+"\n"+strings.Repeat("z", 6000-len(full)), "long")
}

// The head's world has three nodes, and what is done there is there for the lines behind it alone.
func TestTheHeadKeepsNothing(t *testing.T) {
	for node := range 5 {
		want := "no"
		if node < impl.HeadNodes {
			want = "ok"
		}
		tells(t, fmt.Sprintf("tick %d\nsource %d x\nfall %d 0\nrise %d -1", node, node, node, node), strings.Join(slices.Repeat([]string{want}, 4), "|"))
	}
	for range 3 {
		tells(t, "source 0 x\nset x 1\nread x", "ok|ok|1 @ x:1")
	}
}

// randomLine is mostly one that is done.
func randomLine(r *rand.Rand) string {
	names := worldNames[:8]
	name, node, num := names[r.Intn(len(names))], fmt.Sprint(r.Intn(3)), fmt.Sprint(r.Intn(40)-1)
	place := fmt.Sprint(r.Intn(2) * r.Intn(4))
	switch r.Intn(24) {
	case 0, 1:
		return "source " + node + " " + name
	case 2, 3, 4:
		return "define " + node + " " + name + " " + smallBody(r, names)
	case 5:
		return "remove " + name
	case 6, 7, 8:
		return "set " + name + " " + num
	case 9, 10:
		return "tick " + node
	case 11, 12, 13:
		return "give " + place
	case 14:
		return []string{"lose ", "copy "}[r.Intn(2)] + place
	case 15:
		return []string{"fuse ", "fall ", "rise ", "rise ", "rise "}[r.Intn(5)] + node + " " + num
	case 16:
		return "fair"
	case 17, 18:
		return "read " + name
	case 19, 20:
		return "reads " + node + " " + strings.Join(someOf(r, names, 2), " ")
	case 21:
		return "way"
	case 22:
		return "calm"
	}
	return bent(r, "set "+name+" "+num)
}

func randomText(r *rand.Rand, lines int) string {
	text := []string{"source 0 x", "source 1 y", "define 2 a x + y", "define 1 b x * 2", "define 0 c a + b", "set x 3", "set y 4"}
	for range lines {
		text = append(text, randomLine(r))
	}
	return strings.Join(text[r.Intn(len(text)/2):], "\n")
}

func TestTextsAgainstModel(t *testing.T) {
	t.Parallel()
	r := rand.New(rand.NewSource(405))
	told := map[string]int{}
	for range 120 {
		text := randomText(r, r.Intn(112))
		got := impl.HeadRun(text)
		if want := modelHead(text); got != want {
			t.Fatalf("%q tells\n%q, not\n%q", text, got, want)
		}
		for line := range strings.SplitSeq(got, "\n") {
			if strings.Contains(line, "@") {
				line = "@"
			}
			told[line]++
		}
	}
	for _, line := range []string{"ok", "fell", "no", "?", "@", "yes"} {
		if told[line] < 5 {
			t.Error(line, told[line])
		}
	}
}
