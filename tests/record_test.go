package tests

import (
	"math"
	"math/rand"
	"strings"
	"testing"

	"loop.example/headrace/impl"
)

func define(name, text string) impl.Rec {
	return impl.Rec{Kind: impl.RecDefine, Name: name, Text: text}
}
func remove(name string) impl.Rec       { return impl.Rec{Kind: impl.RecRemove, Name: name} }
func value(name string, n int) impl.Rec { return impl.Rec{Kind: impl.RecValue, Name: name, Num: n} }
func lend(name string, n int) impl.Rec  { return impl.Rec{Kind: impl.RecLend, Name: name, Num: n} }
func bytesOf(t *testing.T, r impl.Rec) string {
	t.Helper()
	b, ok := impl.RecBytes(r)
	if !ok {
		t.Fatalf("%+v is no record", r)
	}
	return string(b)
}

// recOk holds RecOk and RecBytes against each other, the model and what is told.
func recOk(t *testing.T, r impl.Rec, want bool) {
	t.Helper()
	b, ok := impl.RecBytes(r)
	if impl.RecOk(r) != want || modelRecOk(r) != want || ok != want {
		t.Errorf("%+v: %v, %v, the model %v", r, impl.RecOk(r), ok, modelRecOk(r))
	}
	if !ok && len(b) > 0 {
		t.Errorf("%+v: %v", r, b)
	}
	if ok && string(b) != modelRecBytes(r) {
		t.Errorf("%+v: %v, not %v", r, b, []byte(modelRecBytes(r)))
	}
}

var wholeRecs = []impl.Rec{
	define("x", ""), define("abcdefgh", "x + 1"), define("-", "\x00\xff"), define("0", strings.Repeat("\xf0", 200)), define("if", "let"),
	remove("x"), remove("abcdefgh"), remove("00000000"), remove("--------"),
	value("x", 0), value("y-1", -1), value("z", 258), value("a", math.MaxInt), value("abcdefgh", math.MinInt),
	lend("x", 1), lend("abcdefgh", 1<<50), lend("9", 1<<50-1), lend("-a", 65521),
}

func TestRecordsThatMayBe(t *testing.T) {
	for _, r := range wholeRecs {
		recOk(t, r, true)
	}
	for _, n := range []int{0, 1, -1, 1 << 50, 1<<50 + 1, math.MinInt, math.MaxInt} {
		recOk(t, value("x", n), true)
		recOk(t, lend("x", n), n == 1 || n == 1<<50)
		recOk(t, impl.Rec{Kind: impl.RecDefine, Name: "x", Num: n, Text: "t"}, n == 0)
		recOk(t, impl.Rec{Kind: impl.RecRemove, Name: "x", Num: n}, n == 0)
	}
	for _, n := range []int{2, 3, 1 << 32, 1<<50 - 1} {
		recOk(t, lend("x", n), true)
	}
	for _, n := range []int{-2, 1 << 51, math.MinInt + 1, math.MaxInt - 1} {
		recOk(t, lend("x", n), false)
	}
	for _, size := range []int{0, 1, 199, 200, 201, 255, 256, 257, 400, 456} {
		recOk(t, define("x", strings.Repeat("t", size)), size <= 200)
		recOk(t, define("x", strings.Repeat("\xff", size)), size <= 200)
	}
	for c := range 256 {
		recOk(t, define("x", string([]byte{byte(c)})), true)
	}
}

func TestKindsOfRecords(t *testing.T) {
	if impl.RecDefine != 1 || impl.RecRemove != 2 || impl.RecValue != 3 || impl.RecLend != 4 {
		t.Fatal("kinds")
	}
	for _, kind := range []int{math.MinInt, -255, -1, 0, 5, 6, 128, 255, 256, 257, 258, 259, 260, 1 << 32, 1<<32 + 1, math.MaxInt} {
		recOk(t, impl.Rec{Kind: kind, Name: "x"}, false)
		recOk(t, impl.Rec{Kind: kind, Name: "x", Num: 1}, false)
		recOk(t, impl.Rec{Kind: kind, Name: "x", Text: "t"}, false)
	}
	for kind := 1; kind <= 4; kind++ {
		recOk(t, impl.Rec{Kind: kind, Name: "x"}, kind != impl.RecLend)
		recOk(t, impl.Rec{Kind: kind, Name: "x", Num: 1}, kind >= impl.RecValue)
		recOk(t, impl.Rec{Kind: kind, Name: "x", Text: "t"}, kind == impl.RecDefine)
		recOk(t, impl.Rec{Kind: kind, Name: "x", Num: 1, Text: "t"}, false)
		recOk(t, impl.Rec{Kind: kind}, false)
		recOk(t, impl.Rec{Kind: kind, Num: 1}, false)
	}
	recOk(t, impl.Rec{}, false)
}

func TestNamesOfRecords(t *testing.T) {
	all := func(name string, want bool) {
		t.Helper()
		recOk(t, define(name, "t"), want)
		recOk(t, remove(name), want)
		recOk(t, value(name, -7), want)
		recOk(t, lend(name, 7), want)
	}
	for c := range 256 {
		may := c < 128 && strings.ContainsRune(recNameBytes, rune(c))
		one := string([]byte{byte(c)})
		for _, name := range []string{one, one + "a", "a" + one, "abc" + one + "def", "abcdefg" + one} {
			all(name, may)
		}
		all("abcdefgh"+one, false)
	}
	for _, name := range []string{"", "abcdefghi", "A", "ä", "a\n", "\na", strings.Repeat("a", 255), strings.Repeat("a", 257), strings.Repeat("a", 264), "a b", "a_b"} {
		all(name, false)
	}
	for _, name := range append([]string{"-", "--------", "0", "01234567", "zyxwvuts", "a-9"}, allKeys...) {
		all(name, true)
	}
}

func TestSums(t *testing.T) {
	for b, want := range map[string]int{"": 1, "\x00": 257, "\x01": 258, "\xff": 512, "\x00\x00": 528, "\x01\x02": 787, "\xff\xff": 797, "a": 354} {
		if got := impl.RecSum([]byte(b)); got != want || modelSum(b) != want {
			t.Errorf("%q: %d, not %d", b, got, want)
		}
	}
	if impl.RecSum(nil) != 1 {
		t.Error(impl.RecSum(nil))
	}
	r := rand.New(rand.NewSource(70))
	for range 3000 {
		b := someBytes(r, r.Intn(300))
		if got := impl.RecSum([]byte(b)); got != modelSum(b) {
			t.Fatalf("%q: %d", b, got)
		}
	}
	for _, n := range []int{1, 100, 8000, 20000} {
		for _, c := range []string{"\x00", "\xff", "x"} {
			b := strings.Repeat(c, n)
			if got := impl.RecSum([]byte(b)); got != modelSum(b) {
				t.Errorf("%d of %q: %d", n, c, got)
			}
		}
	}
}

// The sums here were reckoned apart from the program and the model.
func TestBytesOfRecords(t *testing.T) {
	for _, c := range []struct {
		r    impl.Rec
		want []byte
	}{
		{define("x", ""), []byte{1, 1, 'x', 0, 205, 242}},
		{define("y", "x + 1"), []byte{1, 1, 'y', 5, 'x', ' ', '+', ' ', '1', 78, 190}},
		{remove("x"), []byte{2, 1, 'x', 23, 199}},
		{value("x", 5), []byte{3, 1, 'x', 0, 0, 0, 0, 0, 0, 0, 5, 184, 8}},
		{value("x", -2), []byte{3, 1, 'x', 255, 255, 255, 255, 255, 255, 255, 254, 149, 251}},
		{value("-0", math.MinInt), []byte{3, 2, '-', '0', 128, 0, 0, 0, 0, 0, 0, 0, 95, 14}},
		{lend("x", 1<<50), []byte{4, 1, 'x', 0, 4, 0, 0, 0, 0, 0, 0, 236, 242}},
		{lend("x", 0x0001020304050607), []byte{4, 1, 'x', 0, 1, 2, 3, 4, 5, 6, 7, 81, 18}},
	} {
		if got := bytesOf(t, c.r); got != string(c.want) || modelRecBytes(c.r) != got {
			t.Errorf("%+v: %v, not %v", c.r, []byte(got), c.want)
		}
	}
	long := bytesOf(t, define("abcdefgh", strings.Repeat("t", 200)))
	if len(long) != 213 || long[:11] != "\x01\x08abcdefgh\xc8" || long[11:211] != strings.Repeat("t", 200) || long != summed(long[:211]) {
		t.Errorf("%q", long)
	}
}

// recReads holds RecRead against what is told and the model.
func recReads(t *testing.T, b string, want impl.Rec, size int) {
	t.Helper()
	for _, capped := range []bool{false, true} {
		in := append([]byte(b), "behind the end"...)[:len(b)]
		if capped {
			in = []byte(b)[:len(b):len(b)]
		}
		if r, n, ok := impl.RecRead(in); r != want || n != size || ok != (size > 0) {
			t.Errorf("%q: %+v %d %v, not %+v %d", b, r, n, ok, want, size)
		}
	}
	if r, n, ok := modelRecRead(b); r != want || n != size || ok != (size > 0) {
		t.Errorf("%q: the model reads %+v %d %v, not %+v %d", b, r, n, ok, want, size)
	}
}

func readsNone(t *testing.T, b string) {
	t.Helper()
	recReads(t, b, impl.Rec{}, 0)
}

func TestRecordsAreRead(t *testing.T) {
	for _, r := range wholeRecs {
		b := bytesOf(t, r)
		for _, behind := range []string{"", "\x00", "\xff", "\x01\x01", b, bytesOf(t, value("x", 1)), long(300)} {
			recReads(t, b+behind, r, len(b))
		}
		for end := range len(b) {
			readsNone(t, b[:end])
		}
		readsNone(t, "\x00"+b)
	}
	readsNone(t, "")
	for _, n := range []int{1, 2, 12, 13, 213, 300} {
		for _, c := range []string{"\x00", "\x01", "\x02", "\x03", "\x04", "\x08", "\xff", "a"} {
			readsNone(t, strings.Repeat(c, n))
		}
	}
}

// Each byte of a record becomes each other byte: the model tells what is read of it.
func TestRecordsWithAByteTurned(t *testing.T) {
	for _, r := range wholeRecs {
		b := []byte(bytesOf(t, r))
		for at, was := range b {
			if at > 20 && at < len(b)-3 {
				continue
			}
			for c := range 256 {
				if byte(c) == was {
					continue
				}
				b[at] = byte(c)
				got, n, ok := impl.RecRead(b)
				want, wantN, wantOk := modelRecRead(string(b))
				if got != want || n != wantN || ok != wantOk || ok && at > 1 {
					t.Fatalf("%+v with %d at %d: %+v %d %v", r, c, at, got, n, ok)
				}
			}
			b[at] = was
		}
	}
}

// The sum is right, but no record has these bytes.
func TestBytesOfNoRecords(t *testing.T) {
	eight := eightBytes(7)
	for _, b := range []string{
		"", "\x01", "\x02", "\x03", "\x04",
		"\x00\x01x", "\x05\x01x", "\xff\x01x", "\x00\x01x" + eight, "\x05\x01x" + eight, "\xff\x01x" + eight, "\x00\x01x\x01t", "\x05\x01x\x01t", "\x81\x01x\x01t",
		"\x02\x00", "\x01\x00\x01t", "\x03\x00" + eight, "\x04\x00" + eight,
		"\x02\x09abcdefghi", "\x01\x09abcdefghi\x01t", "\x03\x09abcdefghi" + eight, "\x04\x09abcdefghi" + eight,
		"\x02\xff" + strings.Repeat("a", 255), "\x01\xff" + strings.Repeat("a", 255) + "\x01t",
		"\x02\x01X", "\x01\x01_\x01t", "\x03\x02a " + eight, "\x04\x02\xc3\xa4" + eight, "\x02\x03a\x00b", "\x02\x01\xff", "\x02\x01`", "\x02\x01{", "\x02\x01/", "\x02\x01:", "\x02\x01,", "\x02\x01.",
		"\x01\x01x\xc9" + strings.Repeat("t", 201), "\x01\x01x\xff" + strings.Repeat("t", 255), "\x01\x01x\x02t", "\x01\x01x\x00t", "\x01\x01x",
		"\x02\x01x\x00", "\x02\x02x", "\x02\x01xy", "\x02\x01x" + eight,
		"\x03\x01x" + eight[:7], "\x03\x01x" + eight + "\x00", "\x03\x01x", "\x04\x01x", "\x04\x01x" + eight[:7],
		"\x04\x01x" + eightBytes(0), "\x04\x01x" + eightBytes(-1), "\x04\x01x" + eightBytes(1<<50+1), "\x04\x01x" + eightBytes(1<<51), "\x04\x01x" + eightBytes(math.MinInt), "\x04\x01x" + eightBytes(math.MaxInt),
	} {
		readsNone(t, summed(b))
		readsNone(t, summed(b)+"behind")
		readsNone(t, b)
	}
	// The sum with its bytes the other way round, and as a number that is too great.
	for _, r := range wholeRecs {
		b := bytesOf(t, r)
		high, low := b[len(b)-2], b[len(b)-1]
		if high != low {
			readsNone(t, b[:len(b)-2]+string([]byte{low, high}))
		}
		if sum := modelSum(b[:len(b)-2]) + 65521; sum < 65536 {
			readsNone(t, b[:len(b)-2]+string([]byte{byte(sum >> 8), byte(sum)}))
		}
	}
}

// A sum below 15 could be told a second way, which is none.
func TestSumsAreToldOneWay(t *testing.T) {
	seen := 0
	for n := 0; seen < 10; n++ {
		b := bytesOf(t, value("x", n))
		if sum := modelSum(b[:11]) + 65521; sum < 65536 {
			readsNone(t, b[:11]+string([]byte{byte(sum >> 8), byte(sum)}))
			recReads(t, b, value("x", n), 13)
			seen++
		}
	}
}

// A sum of 0 is not read where bytes are lacking, though what lacks would have told as much.
func TestSumsOfNoughtAreNotLacking(t *testing.T) {
	n := 0
	for modelSum(bareBytes(value("x", n))) != 0 {
		n++
	}
	b := modelRecBytes(value("x", n))
	recReads(t, b, value("x", n), 13)
	for end := range b {
		readsNone(t, b[:end])
	}
	seen := map[int]int{}
	for at := range 37 * 37 * 37 * 37 {
		name := string([]byte{recNameBytes[at%37], recNameBytes[at/37%37], recNameBytes[at/37/37%37], recNameBytes[at/37/37/37]})
		for kind := impl.RecDefine; kind <= impl.RecLend; kind++ {
			b := string([]byte{byte(kind)}) + lengthAndText(name)
			if impl.RecSum([]byte(b)) != 0 {
				continue
			}
			seen[kind]++
			readsNone(t, b)
			readsNone(t, b+"\x00")
			if kind != impl.RecRemove {
				readsNone(t, b+"\x00\x00")
			}
		}
	}
	if len(seen) != 4 {
		t.Fatal(seen)
	}
}

func TestRecordsAgainstModel(t *testing.T) {
	r := rand.New(rand.NewSource(71))
	read := 0
	for range 6000 {
		rec := randomRec(r)
		switch r.Intn(12) {
		case 0:
			rec.Kind = r.Intn(7)
		case 1:
			rec.Name += randomRecName(r)
		case 2:
			rec.Text += someBytes(r, r.Intn(250))
		case 3:
			rec.Num = int(r.Uint64()) >> r.Intn(64)
		}
		recOk(t, rec, modelRecOk(rec))
		b := modelRecBytes(rec)
		if len(rec.Name) > 255 || len(rec.Text) > 255 {
			continue
		}
		switch r.Intn(3) {
		case 0:
			b += someBytes(r, r.Intn(20))
		case 1:
			b = b[:r.Intn(len(b)+1)]
		}
		want, size, ok := modelRecRead(b)
		recReads(t, b, want, size)
		read += oneIf(ok)
	}
	if read < 2000 || read > 5000 {
		t.Fatal(read)
	}
	for range 3000 {
		b := someBytes(r, r.Intn(30))
		if r.Intn(2) == 0 {
			b = string([]byte{byte(1 + r.Intn(4)), byte(1 + r.Intn(3))}) + randomRecName(r) + b
		}
		b = summed(b)
		want, size, _ := modelRecRead(b)
		recReads(t, b, want, size)
	}
}
