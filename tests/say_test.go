package tests

import (
	"fmt"
	"math"
	"math/rand"
	"slices"
	"strings"
	"testing"

	"loop.example/headrace/impl"
)

func ask(from, to int, name string) impl.Say {
	return impl.Say{Kind: impl.SayAsk, From: from, To: to, Name: name}
}
func gone(from, to int, name string) impl.Say {
	return impl.Say{Kind: impl.SayGone, From: from, To: to, Name: name}
}
func tell(from, to int, name string, val int, stamp ...impl.Ver) impl.Say {
	return impl.Say{Kind: impl.SayTell, From: from, To: to, Name: name, Val: val, Stamp: stamp}
}
func ver(src string, n int) impl.Ver { return impl.Ver{Src: src, Ver: n} }

// fullStamp has the first of so many names that ascend, each as long as may be.
func fullStamp(n int) []impl.Ver {
	var stamp []impl.Ver
	for i := range n {
		stamp = append(stamp, ver(fmt.Sprintf("source%02d", i), impl.SayMaxVer-i))
	}
	return stamp
}

var greatestSay = tell(9, 8, "abcdefgh", math.MinInt, fullStamp(12)...)

var wholeSays = []impl.Say{
	ask(1, 2, "x"), ask(0, 9, "abcdefgh"), ask(9, 0, "-"), ask(3, 4, "0"), ask(5, 6, "if"),
	gone(0, 9, "s-1"), gone(9, 8, "--------"), gone(7, 1, "z"),
	tell(0, 9, "sum", -1, ver("x", 258), ver("y", 1<<40)), tell(9, 0, "-", math.MinInt, ver("0", 1)), tell(3, 4, "a", 5, ver("a", 0x0203040506)),
	tell(1, 2, "x", 0, ver("x", 1)), tell(1, 2, "x", math.MaxInt, ver("-", 1), ver("0", 2), ver("a", 3), ver("a-", 4), ver("a0", 5), ver("aa", 6)),
	tell(2, 1, "tells", 10, ver("asks", 245), ver("gone", 1<<40-1)), tell(4, 5, "12345678", -65521, ver("12345678", 255), ver("2", 256)),
	tell(6, 7, "x", 245<<16, fullStamp(11)...), greatestSay,
}

// sayOk holds SayOk, SayBytes and SayLine against each other, the model and what is told.
func sayOk(t *testing.T, s impl.Say, want bool) {
	t.Helper()
	b, ok := impl.SayBytes(s)
	line := impl.SayLine(s)
	if impl.SayOk(s) != want || modelSayOk(s) != want || ok != want || (line != "") != want {
		t.Errorf("%+v: %v, %v, %q, the model %v", s, impl.SayOk(s), ok, line, modelSayOk(s))
	}
	if !ok && len(b) > 0 {
		t.Errorf("%+v: %v", s, b)
	}
	if ok && (string(b) != modelSayBytes(s) || line != modelLine(s)) {
		t.Errorf("%+v: %v %q", s, b, line)
	}
	if len(b) > impl.SayMaxBytes || len(line) > impl.SayMaxLine {
		t.Errorf("%+v: %d bytes, a line of %d", s, len(b), len(line))
	}
}

func TestLimitsOfWords(t *testing.T) {
	got := []int{impl.SayMaxName, impl.SayMaxNode, impl.SayMaxMarks, impl.SayMaxVer, impl.SayMaxBytes, impl.SayMaxLine, impl.SayAsk, impl.SayTell, impl.SayGone}
	if want := []int{8, 9, 12, 1099511627776, 260, 400, 1, 2, 3}; !slices.Equal(got, want) {
		t.Fatal(got)
	}
}

func TestWordsThatMayBe(t *testing.T) {
	for _, s := range wholeSays {
		sayOk(t, s, true)
	}
	for _, n := range edgeNums {
		sayOk(t, tell(1, 2, "x", n, ver("x", 1)), true)
		for _, kind := range []int{impl.SayAsk, impl.SayGone} {
			sayOk(t, impl.Say{Kind: kind, From: 1, To: 2, Name: "x", Val: n}, n == 0)
		}
	}
	for _, kind := range []int{impl.SayAsk, impl.SayGone} {
		s := impl.Say{Kind: kind, From: 1, To: 2, Name: "x", Stamp: []impl.Ver{}}
		sayOk(t, s, true)
		for _, stamp := range [][]impl.Ver{{{}}, {ver("x", 1)}, {ver("x", 0)}, fullStamp(12)} {
			s.Stamp = stamp
			sayOk(t, s, false)
		}
	}
}

func TestKindsOfWords(t *testing.T) {
	for _, kind := range []int{math.MinInt, -255, -254, -2, -1, 0, 4, 5, 128, 255, 256, 257, 258, 259, 1 << 32, 1<<32 + 1, 1<<32 + 2, math.MaxInt} {
		sayOk(t, impl.Say{Kind: kind, From: 1, To: 2, Name: "x"}, false)
		sayOk(t, impl.Say{Kind: kind, From: 1, To: 2, Name: "x", Val: 1, Stamp: []impl.Ver{ver("x", 1)}}, false)
	}
	for kind := 1; kind <= 3; kind++ {
		sayOk(t, impl.Say{Kind: kind, From: 1, To: 2, Name: "x"}, kind != impl.SayTell)
		sayOk(t, impl.Say{Kind: kind, From: 1, To: 2, Name: "x", Stamp: []impl.Ver{ver("x", 1)}}, kind == impl.SayTell)
		sayOk(t, impl.Say{Kind: kind, From: 1, To: 2}, false)
		sayOk(t, impl.Say{Kind: kind, Name: "x"}, false)
	}
	sayOk(t, impl.Say{}, false)
}

func TestNodesOfWords(t *testing.T) {
	edges := []int{math.MinInt, -256, -1, 0, 1, 4, 8, 9, 10, 11, 255, 256, 257, 265, 1 << 32, math.MaxInt}
	for _, from := range edges {
		for _, to := range edges {
			want := from >= 0 && from <= 9 && to >= 0 && to <= 9 && from != to
			sayOk(t, ask(from, to, "x"), want)
			sayOk(t, gone(from, to, "x"), want)
			sayOk(t, tell(from, to, "x", 1, ver("x", 1)), want)
		}
	}
}

func TestNamesOfWords(t *testing.T) {
	all := func(name string, want bool) {
		t.Helper()
		sayOk(t, ask(1, 2, name), want)
		sayOk(t, gone(1, 2, name), want)
		sayOk(t, tell(1, 2, name, -7, ver("x", 7)), want)
		sayOk(t, tell(1, 2, "x", -7, ver(name, 7)), want)
		sayOk(t, tell(1, 2, "x", -7, ver(name, 7), ver("zzzzzzzz", 7)), want && name != "zzzzzzzz")
		sayOk(t, tell(1, 2, "x", -7, ver("-", 7), ver(name, 7)), want && name != "-")
	}
	for c := range 256 {
		may := c < 128 && strings.ContainsRune(recNameBytes, rune(c))
		one := string([]byte{byte(c)})
		for _, name := range []string{one, one + "a", "a" + one, "abc" + one + "def", "abcdefg" + one} {
			all(name, may)
		}
		all("abcdefgh"+one, false)
	}
	for _, name := range []string{"", "abcdefghi", "A", "ä", "a\n", "\na", strings.Repeat("a", 255), strings.Repeat("a", 257), strings.Repeat("a", 264), "a b", "a_b", "a:1"} {
		all(name, false)
	}
	for _, name := range append([]string{"-", "--------", "0", "01234567", "zyxwvuts", "zzzzzzzz", "a-9", "asks"}, allKeys...) {
		all(name, true)
	}
}

func TestVersionsOfWords(t *testing.T) {
	for n := range 20 {
		sayOk(t, tell(1, 2, "x", 0, fullStamp(n)...), n >= 1 && n <= 12)
	}
	for _, n := range []int{256, 257, 258, 268} {
		stamp := make([]impl.Ver, n)
		for i := range stamp {
			stamp[i] = ver(fmt.Sprintf("a%03d", i), 1)
		}
		sayOk(t, tell(1, 2, "x", 0, stamp...), false)
	}
	for _, n := range []int{math.MinInt, -1, 0, 1, 2, 1<<40 - 1, 1 << 40, 1<<40 + 1, 1 << 41, 1 << 48, 1<<48 + 1, math.MaxInt} {
		want := n >= 1 && n <= 1<<40
		sayOk(t, tell(1, 2, "x", 0, ver("a", n)), want)
		sayOk(t, tell(1, 2, "x", 0, ver("a", n), ver("b", 1)), want)
		sayOk(t, tell(1, 2, "x", 0, ver("a", 1), ver("b", n)), want)
		full := fullStamp(12)
		full[11].Ver = n
		sayOk(t, tell(1, 2, "x", 0, full...), want)
	}
	for _, srcs := range []string{"a b", "a ab", "ab abc abcd", "- 0 a", "a a-", "a- a0", "a0 aa", "9 a", "-- -0", "z zz zzz", "abcdefg abcdefgh", "10 9"} {
		up := strings.Fields(srcs)
		sayOk(t, tell(1, 2, "x", 0, versOf(up)...), true)
		down := slices.Clone(up)
		slices.Reverse(down)
		sayOk(t, tell(1, 2, "x", 0, versOf(down)...), false)
		for i := range up {
			sayOk(t, tell(1, 2, "x", 0, versOf(slices.Insert(slices.Clone(up), i, up[i]))...), false)
		}
	}
	sayOk(t, tell(1, 2, "x", 0, ver("a", 1), ver("a", 2)), false)
	sayOk(t, tell(1, 2, "x", 0, ver("a", 1), ver("c", 1), ver("b", 1)), false)
	sayOk(t, tell(1, 2, "x", 0, ver("b", 1), ver("a", 1), ver("c", 1)), false)
}

func versOf(srcs []string) []impl.Ver {
	var stamp []impl.Ver
	for i, src := range srcs {
		stamp = append(stamp, ver(src, i+1))
	}
	return stamp
}

// The sums here were reckoned apart from the program and the model.
func TestSumsOfWords(t *testing.T) {
	for b, want := range map[string]int{"": 7, "\x00": 1841, "\x01": 1842, "\xff": 2096, "\x00\x00": 25536, "\x01\x02": 25801, "\xff\xff": 27335, "a": 1938, "\x00\x00\x00": 32826} {
		if got := impl.SaySum([]byte(b)); got != want || modelSaySum(b) != want {
			t.Errorf("%q: %d, not %d", b, got, want)
		}
	}
	if impl.SaySum(nil) != 7 {
		t.Error(impl.SaySum(nil))
	}
	r := rand.New(rand.NewSource(150))
	for range 3000 {
		b := someBytes(r, r.Intn(300))
		if got := impl.SaySum([]byte(b)); got != modelSaySum(b) {
			t.Fatalf("%q: %d", b, got)
		}
	}
	for _, n := range []int{1, 100, 4000, 20000} {
		for _, c := range []string{"\x00", "\xff", "x"} {
			b := strings.Repeat(c, n)
			if got := impl.SaySum([]byte(b)); got != modelSaySum(b) {
				t.Errorf("%d of %q: %d", n, c, got)
			}
		}
	}
}

func sayBytes(t *testing.T, s impl.Say) string {
	t.Helper()
	b, ok := impl.SayBytes(s)
	if !ok {
		t.Fatalf("%+v is no word", s)
	}
	return string(b)
}

// The sums here were reckoned apart from the program and the model.
func TestBytesOfWords(t *testing.T) {
	for _, c := range []struct {
		s    impl.Say
		want []byte
	}{
		{ask(1, 2, "x"), []byte{1, 1, 2, 1, 'x', 132, 18}},
		{gone(0, 9, "s-1"), []byte{3, 0, 9, 3, 's', '-', '1', 229, 150}},
		{tell(0, 9, "sum", -1, ver("x", 258), ver("y", 1<<40)), []byte{2, 0, 9, 3, 's', 'u', 'm', 255, 255, 255, 255, 255, 255, 255, 255, 2, 1, 'x', 0, 0, 0, 0, 1, 2, 1, 'y', 1, 0, 0, 0, 0, 0, 188, 113}},
		{tell(9, 0, "-", math.MinInt, ver("0", 1)), []byte{2, 9, 0, 1, '-', 128, 0, 0, 0, 0, 0, 0, 0, 1, 1, '0', 0, 0, 0, 0, 0, 1, 150, 178}},
		{tell(3, 4, "a", 5, ver("a", 0x0203040506)), []byte{2, 3, 4, 1, 'a', 0, 0, 0, 0, 0, 0, 0, 5, 1, 1, 'a', 0, 2, 3, 4, 5, 6, 212, 149}},
	} {
		if got := sayBytes(t, c.s); got != string(c.want) || modelSayBytes(c.s) != got {
			t.Errorf("%+v: %v, not %v", c.s, []byte(got), c.want)
		}
		sayReads(t, string(c.want), c.s, true)
	}
	if b := sayBytes(t, greatestSay); len(b) != 203 || b[:12] != "\x02\x09\x08\x08abcdefgh" || b[20] != 12 || b != said(b[:201]) {
		t.Errorf("%q", b)
	}
}

// sayReads holds SayRead against what is told and the model.
func sayReads(t *testing.T, b string, want impl.Say, wantOk bool) {
	t.Helper()
	for _, capped := range []bool{false, true} {
		in := append([]byte(b), "behind the end"...)[:len(b)]
		if capped {
			in = []byte(b)[:len(b):len(b)]
		}
		if s, ok := impl.SayRead(in); !sameSay(s, want) || ok != wantOk {
			t.Errorf("%q: %+v %v, not %+v %v", b, s, ok, want, wantOk)
		}
	}
	if s, ok := modelSayRead(b); !sameSay(s, want) || ok != wantOk {
		t.Errorf("%q: the model reads %+v %v, not %+v %v", b, s, ok, want, wantOk)
	}
}

func saysNone(t *testing.T, b string) {
	t.Helper()
	sayReads(t, b, impl.Say{}, false)
}

func TestWordsAreRead(t *testing.T) {
	for _, s := range wholeSays {
		b := sayBytes(t, s)
		sayReads(t, b, s, true)
		for end := range len(b) {
			saysNone(t, b[:end])
			if end != len(b)-2 {
				saysNone(t, said(b[:end]))
			}
		}
		for c := range 256 {
			saysNone(t, b+string([]byte{byte(c)}))
		}
		for _, more := range []string{"\x00\x00", b, sayBytes(t, ask(1, 2, "x")), long(100)} {
			saysNone(t, b+more)
			saysNone(t, said(b[:len(b)-2]+more))
		}
		saysNone(t, "\x00"+b)
		saysNone(t, said(b))
	}
	for _, n := range []int{0, 1, 2, 7, 24, 203, 259, 260, 261, 300, 4000} {
		for _, c := range []string{"\x00", "\x01", "\x02", "\x03", "\x08", "\xff", "a"} {
			saysNone(t, strings.Repeat(c, n))
			saysNone(t, said(strings.Repeat(c, n)))
		}
	}
}

// Each byte of a word becomes each other byte: the model tells what is read of it.
func TestWordsWithAByteTurned(t *testing.T) {
	for _, s := range wholeSays {
		b := []byte(sayBytes(t, s))
		for at, was := range b {
			if at > 40 && at < len(b)-20 {
				continue
			}
			for c := range 256 {
				if byte(c) == was {
					continue
				}
				b[at] = byte(c)
				got, ok := impl.SayRead(b)
				if want, wantOk := modelSayRead(string(b)); !sameSay(got, want) || ok != wantOk || ok {
					t.Fatalf("%+v with %d at %d: %+v %v", s, c, at, got, ok)
				}
				resummed := said(string(b[:len(b)-2]))
				got, ok = impl.SayRead([]byte(resummed))
				if want, wantOk := modelSayRead(resummed); !sameSay(got, want) || ok != wantOk {
					t.Fatalf("%+v with %d at %d and its sum: %+v %v", s, c, at, got, ok)
				}
			}
			b[at] = was
		}
	}
}

// The sum is right, but no word has these bytes.
func TestBytesOfNoWords(t *testing.T) {
	eight, one := eightBytes(7), sixBytes(1)
	x := "\x02\x01\x02\x01x" + eight
	nine := strings.Repeat("a", 9)
	for _, b := range []string{
		"", "\x01", "\x01\x01", "\x01\x01\x02", "\x01\x01\x02\x01", "\x02\x01\x02\x01x", "\x02",
		"\x00\x01\x02\x01x", "\x04\x01\x02\x01x", "\xff\x01\x02\x01x", "\x81\x01\x02\x01x", "\x00" + x[1:] + "\x01\x01x" + one, "\x04" + x[1:] + "\x01\x01x" + one,
		"\x01\x01\x01\x01x", "\x03\x00\x00\x01x", "\x01\x0a\x02\x01x", "\x01\x01\x0a\x01x", "\x01\xff\x02\x01x", "\x01\x01\xff\x01x", "\x02\x02\x02" + x[3:] + "\x01\x01x" + one, "\x02\x02\x0a" + x[3:] + "\x01\x01x" + one,
		"\x01\x01\x02\x00", "\x03\x01\x02\x00", "\x02\x01\x02\x00" + eight + "\x01\x01x" + one,
		"\x01\x01\x02\x09" + nine, "\x03\x01\x02\x09" + nine, "\x02\x01\x02\x09" + nine + eight + "\x01\x01x" + one, "\x01\x01\x02\xf5" + strings.Repeat("a", 245), "\x01\x01\x02\xff" + strings.Repeat("a", 255),
		"\x01\x01\x02\x01X", "\x01\x01\x02\x01_", "\x01\x01\x02\x01`", "\x01\x01\x02\x01{", "\x01\x01\x02\x01/", "\x01\x01\x02\x01:", "\x01\x01\x02\x01,", "\x01\x01\x02\x01.", "\x01\x01\x02\x01 ", "\x01\x01\x02\x01\x00", "\x01\x01\x02\x01\xff", "\x03\x01\x02\x02\xc3\xa4", "\x02\x01\x02\x02a " + eight + "\x01\x01x" + one,
		"\x01\x01\x02\x02x", "\x01\x01\x02\x01xy", "\x01\x01\x02\x01x\x00", "\x03\x01\x02\x01x\x00", "\x01" + x[1:] + "\x01\x01x" + one, "\x03" + x[1:] + "\x01\x01x" + one, "\x01\x01\x02\x01x" + eight, "\x01\x01\x02\x01x" + eightBytes(0) + "\x00",
		x, x[:12], x + "\x00", x + "\x01", x + "\x01\x01", x + "\x01\x01x", x + "\x01\x01x" + one[:5], x + "\x02\x01x" + one, x + "\x00\x01x" + one, x + "\x01\x01x" + one + "\x00", x + "\x01\x01x" + one + "\x01y" + one, x + "\xff\x01x" + one,
		x + "\x01\x00" + one, x + "\x01\x09" + nine + one, x + "\x01\xff" + strings.Repeat("a", 255) + one, x + "\x01\x01X" + one, x + "\x01\x02x\x00" + one, x + "\x01\x02\xc3\xa4" + one,
		x + "\x02\x01x" + one + "\x01x" + one, x + "\x02\x01y" + one + "\x01x" + one, x + "\x02\x02xx" + one + "\x01x" + one, x + "\x03\x01x" + one + "\x01z" + one + "\x01y" + one, x + "\x02\x01a" + one + "\x01-" + one,
		x + "\x01\x01x" + sixBytes(0), x + "\x01\x01x" + sixBytes(1<<40+1), x + "\x01\x01x" + sixBytes(1<<41), x + "\x01\x01x" + sixBytes(1<<47), x + "\x01\x01x" + sixBytes(-1), x + "\x02\x01x" + one + "\x01y" + sixBytes(0),
		bareSay(tell(1, 2, "x", 1, fullStamp(13)...)), bareSay(tell(1, 2, "x", 1, fullStamp(16)...)), bareSay(tell(1, 2, "x", 1, fullStamp(17)...)), bareSay(tell(1, 2, "x", 1, fullStamp(60)...)),
		bareSay(greatestSay) + long(55), bareSay(greatestSay) + long(57), bareSay(greatestSay) + long(58), bareSay(ask(1, 2, "x")) + long(253), bareSay(ask(1, 2, "x")) + long(254),
	} {
		saysNone(t, said(b))
		saysNone(t, said(b)+"behind")
		saysNone(t, b)
	}
	sayReads(t, said(x+"\x01\x01x"+one), tell(1, 2, "x", 7, ver("x", 1)), true)
	sayReads(t, said(x+"\x01\x01x"+sixBytes(1<<40)), tell(1, 2, "x", 7, ver("x", 1<<40)), true)
}

// A sum below 15 could be told a second way, which is none; and with its bytes the other way round it is another one.
func TestSumsOfWordsAreToldOneWay(t *testing.T) {
	seen := 0
	for n := 0; seen < 10; n++ {
		s := tell(1, 2, "x", n, ver("x", 1))
		b := sayBytes(t, s)
		bare := b[:len(b)-2]
		if sum := modelSaySum(bare) + 65521; sum < 65536 {
			saysNone(t, bare+string([]byte{byte(sum >> 8), byte(sum)}))
			sayReads(t, b, s, true)
			seen++
		}
	}
	for _, s := range wholeSays {
		b := sayBytes(t, s)
		if high, low := b[len(b)-2], b[len(b)-1]; high != low {
			saysNone(t, b[:len(b)-2]+string([]byte{low, high}))
		}
	}
}

// A sum of 0 is not read where bytes are lacking, though what lacks would have told as much.
func TestNoughtsOfWordsAreNotLacking(t *testing.T) {
	n := 0
	for modelSaySum(bareSay(tell(1, 2, "x", n, ver("x", 1)))) != 0 {
		n++
	}
	s := tell(1, 2, "x", n, ver("x", 1))
	b := modelSayBytes(s)
	sayReads(t, b, s, true)
	for end := range b {
		saysNone(t, b[:end])
	}
	seen := 0
	for at := range 37 * 37 * 37 {
		name := string([]byte{recNameBytes[at%37], recNameBytes[at/37%37], recNameBytes[at/37/37]})
		for kind := 1; kind <= 3; kind++ {
			b := string([]byte{byte(kind), 1, 2}) + lengthAndText(name)
			if impl.SaySum([]byte(b)) != 0 {
				continue
			}
			seen++
			saysNone(t, b)
			saysNone(t, b+"\x00")
			if kind == impl.SayTell {
				saysNone(t, b+"\x00\x00")
			}
		}
	}
	if seen == 0 {
		t.Fatal("none")
	}
}

// turnedSay is mostly a word, with something of it that may be wrong.
func turnedSay(r *rand.Rand) impl.Say {
	s := randomSay(r)
	switch r.Intn(14) {
	case 0:
		s.Kind = r.Intn(6)
	case 1:
		s.Name += randomRecName(r)
	case 2:
		s.From = r.Intn(13) - 1
	case 3:
		s.To = r.Intn(13) - 1
	case 4:
		s.Val = r.Intn(3)
	case 5:
		s.Stamp = append(s.Stamp, randomStamp(r, 1)...)
	case 6:
		if len(s.Stamp) > 0 {
			s.Stamp[r.Intn(len(s.Stamp))].Ver = []int{0, 1<<40 + 1, -1, 1 << 40}[r.Intn(4)]
		}
	case 7:
		if len(s.Stamp) > 0 {
			s.Stamp[r.Intn(len(s.Stamp))].Src = someBytes(r, r.Intn(10))
		}
	}
	return s
}

func TestWordsAgainstModel(t *testing.T) {
	r := rand.New(rand.NewSource(151))
	read := 0
	for range 8000 {
		s := turnedSay(r)
		sayOk(t, s, modelSayOk(s))
		b := modelSayBytes(s)
		switch r.Intn(6) {
		case 0:
			b = b[:r.Intn(len(b)+1)]
		case 1:
			b = said(b[:len(b)-2] + someBytes(r, 1+r.Intn(5)))
		case 2:
			b = said(b[:r.Intn(len(b)+1)])
		}
		want, ok := modelSayRead(b)
		sayReads(t, b, want, ok)
		read += oneIf(ok)
	}
	if read < 1000 || read > 6000 {
		t.Fatal(read)
	}
	for range 4000 {
		b := someBytes(r, r.Intn(40))
		if r.Intn(2) == 0 {
			b = string([]byte{byte(1 + r.Intn(3)), 1, 2, byte(1 + r.Intn(3))}) + randomRecName(r) + b
		}
		b = said(b)
		want, ok := modelSayRead(b)
		sayReads(t, b, want, ok)
	}
}
