package tests

import (
	"math"
	"math/rand"
	"strings"
	"testing"

	"loop.example/headrace/impl"
)

func earOk(t *testing.T, e ear, want bool) {
	t.Helper()
	if got := impl.SplitOk(e.split()); got != want || modelEarOk(e) != want {
		t.Errorf("%v: %v, the model %v", e, got, modelEarOk(e))
	}
	left, heard, ok := feed(e, "")
	if ok != (want && fitsInto(e, 0)) || ok && left != e || !ok && left != (ear{}) || len(heard) > 0 {
		t.Errorf("%v and nothing: %v %q %v", e, left, heard, ok)
	}
}

func TestWhoMayListen(t *testing.T) {
	if impl.SplitMaxFeed != 4000 || impl.SplitMaxBuf != 270 {
		t.Fatal("limits")
	}
	if !impl.SplitOk(impl.Split{}) || !impl.SplitOk(impl.Split{Buf: []byte{}}) {
		t.Error("nothing")
	}
	for _, lost := range []int{math.MinInt, -1, 0, 1, 4000, math.MaxInt - 1, math.MaxInt} {
		earOk(t, ear{"", lost}, lost >= 0)
		earOk(t, ear{"\xf5", lost}, lost >= 0)
		earOk(t, ear{"x", lost}, false)
	}
	for c := range 256 {
		one := string([]byte{byte(c)})
		earOk(t, ear{buf: one}, c == 245)
		earOk(t, ear{buf: one + "\xf5"}, c == 245)
		earOk(t, ear{buf: "\xf5" + one}, true)
		earOk(t, ear{buf: "\xf5" + one + "\x01"}, c < 2)
		earOk(t, ear{buf: "\xf5\x00" + one}, c > 0)
		earOk(t, ear{buf: "\xf5\x01" + one}, c <= 4)
	}
	for _, body := range someBodies {
		b := modelFrame(body)
		for end := range len(b) {
			earOk(t, ear{buf: b[:end]}, true)
		}
		earOk(t, ear{buf: b}, false)
		earOk(t, ear{buf: b[:len(b)-1] + "\x00"}, false)
		earOk(t, ear{buf: b[:len(b)-1] + "\x01"}, false)
		earOk(t, ear{buf: b + "\xf5"}, false)
		earOk(t, ear{buf: "x" + b[:3]}, false)
		earOk(t, ear{buf: b[1:]}, strings.HasPrefix(b[1:], "\xf5") && modelWaits(b[1:]))
	}
	for size := 260; size < 300; size++ {
		earOk(t, ear{buf: (lengthHead(260) + long(300))[:size]}, size <= 264)
		earOk(t, ear{buf: long(size)}, false)
		earOk(t, ear{buf: strings.Repeat("\xf5", size)}, false)
	}
	earOk(t, ear{buf: lengthHead(260) + long(4000)}, false)
}

// fed holds SplitFeed against what is told and the model, and SplitEnd behind it against the model.
func fed(t *testing.T, e ear, b string, want ear, wantHeard ...string) {
	t.Helper()
	left, heard, ok := feed(e, b)
	if !ok || left != want || !sameTexts(heard, wantHeard) {
		t.Errorf("%v and %.80q: %v %.80q %v, not %v %.80q", e, b, left, heard, ok, want, wantHeard)
	}
	if left, heard, ok := modelFeed(e, b); !ok || left != want || !sameTexts(heard, wantHeard) {
		t.Errorf("%v and %.80q: the model says %v %.80q %v", e, b, left, heard, ok)
	}
	if !impl.SplitOk(left.split()) {
		t.Errorf("%v and %.80q: nobody listens like %v", e, b, left)
	}
}

func refused(t *testing.T, e ear, b string) {
	t.Helper()
	left, heard, ok := feed(e, b)
	if _, _, may := modelFeed(e, b); ok || may || left != (ear{}) || len(heard) > 0 {
		t.Errorf("%v and %d bytes: %v %q %v", e, len(b), left, heard, ok)
	}
}

func TestFeedsThatAreRefused(t *testing.T) {
	waiting := lengthHead(260)
	for _, e := range []ear{{"", -1}, {"", math.MinInt}, {"x", 0}, {"\xf5\x00\x00", 0}, {modelFrame("x"), 0}, {"\xf5\x00\x01x\x00\x00", 0}, {(waiting + long(300))[:265], 0}, {(waiting + long(300))[:270], 0}, {(waiting + long(300))[:271], 0}} {
		for _, b := range []string{"", "x", modelFrame("x"), long(4000)} {
			refused(t, e, b)
		}
		if heard, lost := finish(e); len(heard) > 0 || lost != 0 {
			t.Errorf("%v at the end: %q %d", e, heard, lost)
		}
	}
	for _, size := range []int{4001, 4002, 8000, 70000} {
		refused(t, ear{}, long(size))
		refused(t, ear{}, strings.Repeat(modelFrame("x"), size)[:size])
		refused(t, ear{buf: "\xf5"}, long(size))
	}
	for _, c := range []struct {
		e  ear
		b  string
		ok bool
	}{
		{ear{"", math.MaxInt}, "", true}, {ear{"", math.MaxInt}, "x", false}, {ear{"", math.MaxInt - 1}, "x", true}, {ear{"", math.MaxInt - 1}, "xy", false},
		{ear{"\xf5", math.MaxInt}, "", false}, {ear{"\xf5", math.MaxInt - 1}, "", true}, {ear{"\xf5", math.MaxInt - 1}, "x", false}, {ear{"\xf5", math.MaxInt - 2}, "x", true},
		{ear{"", math.MaxInt}, modelFrame("x"), false}, {ear{"", math.MaxInt - 6}, modelFrame("x"), true}, {ear{"", math.MaxInt - 5}, modelFrame("x"), false},
		{ear{"", math.MaxInt - 4000}, long(4000), true}, {ear{"", math.MaxInt - 3999}, long(4000), false},
		{ear{waiting, math.MaxInt - 4003}, long(4000), true}, {ear{waiting, math.MaxInt - 4002}, long(4000), false},
	} {
		if !c.ok {
			refused(t, c.e, c.b)
			continue
		}
		left, heard, _ := modelFeed(c.e, c.b)
		fed(t, c.e, c.b, left, heard...)
	}
}

func TestFramesAreHeard(t *testing.T) {
	x, y := modelFrame("x"), modelFrame("yy")
	none := ear{}
	fed(t, none, "", none)
	fed(t, none, x, none, "x")
	fed(t, none, x+y, none, "x", "yy")
	fed(t, none, x+x+x, none, "x", "x", "x")
	fed(t, none, "abc", ear{"", 3})
	fed(t, none, "abc"+x, ear{"", 3}, "x")
	fed(t, none, x+"abc"+y+"d", ear{"", 4}, "x", "yy")
	fed(t, none, x+"\xf5", ear{"\xf5", 0}, "x")
	fed(t, ear{"\xf5", 7}, x[1:]+"a", ear{"", 8}, "x")
	fed(t, ear{x[:5], 7}, x[5:], ear{"", 7}, "x")
	// a mark among what is passed over
	fed(t, none, "\xf5"+x, ear{"", 1}, "x")
	fed(t, none, "a\xf5b"+x, ear{"", 3}, "x")
	fed(t, none, "\xf5\xf5\xf5"+x, ear{"", 3}, "x")
	fed(t, none, "\xf5\x00"+x, ear{"\xf5\x00" + x, 0})
	fed(t, none, "\xf5\x00\x00"+x, ear{"", 3}, "x")
	fed(t, none, "\xf5\x01\x05"+x, ear{"", 3}, "x")
	fed(t, none, "\xf5\xf5", ear{"\xf5\xf5", 0})
	fed(t, none, "\xf5\xf5\x00", ear{"\xf5\x00", 1})
	// where one waits: the second byte alone tells nothing
	for _, c := range []string{"\x00", "\x01", "\x02", "\x80", "\xf5", "\xff"} {
		fed(t, none, "\xf5"+c, ear{"\xf5" + c, 0})
	}
	fed(t, ear{buf: "\xf5\xff"}, "a", ear{"", 3})
	fed(t, ear{buf: "\xf5\x02"}, "\xf5", ear{"\xf5", 2})
	// a wrong sum, and another frame within or behind
	wrong := x[:5] + string([]byte{x[5] ^ 1})
	fed(t, none, wrong, ear{"", 6})
	fed(t, none, wrong+y, ear{"", 6}, "yy")
	within := lengthHead(len(x)+2) + "a" + x + "b" + "\x00\x00"
	fed(t, none, within, ear{"", 7}, "x")
	fed(t, none, modelFrame("a"+x+"b"), none, "a"+x+"b")
	fed(t, none, lengthHead(2)+"\xf5\x00"+"\x00\x00"+y, ear{"", 7}, "yy")
	fed(t, none, lengthHead(1)+x[:4]+y, ear{"", 7}, "yy")
	// a length that is not filled
	fed(t, none, lengthHead(200)+x+y, ear{lengthHead(200) + x + y, 0})
	fed(t, ear{lengthHead(200) + x + y, 1}, long(191)+x, ear{"", 195}, "x", "yy", "x")
	big := modelFrame(long(260))
	fed(t, none, big, none, long(260))
	fed(t, none, big[:264], ear{big[:264], 0})
	fed(t, ear{big[:264], 5}, big[264:]+"\xf5", ear{"\xf5", 5}, long(260))
	// just as many bytes as may come
	fed(t, none, long(4000), ear{"", 4000})
	fed(t, none, strings.Repeat("\xf5", 4000), ear{"\xf5\xf5", 3998})
	fed(t, none, long(4000-6)+x, ear{"", 3994}, "x")
	fed(t, ear{big[:264], 0}, big[264:]+long(3999), ear{"", 3999}, long(260))
	full := strings.Repeat(modelFrame("abc"), 500)
	var abc []string
	for range 500 {
		abc = append(abc, "abc")
	}
	fed(t, none, full, none, abc...)
}

func ended(t *testing.T, e ear, wantLost int, wantHeard ...string) {
	t.Helper()
	if heard, lost := finish(e); lost != wantLost || !sameTexts(heard, wantHeard) {
		t.Errorf("%v at the end: %.80q %d, not %.80q %d", e, heard, lost, wantHeard, wantLost)
	}
	if heard, lost := modelFinish(e); lost != wantLost || !sameTexts(heard, wantHeard) {
		t.Errorf("%v at the end: the model says %.80q %d", e, heard, lost)
	}
}

func TestStreamsThatEnd(t *testing.T) {
	x, y := modelFrame("x"), modelFrame("yy")
	ended(t, ear{}, 0)
	ended(t, ear{"", 9}, 9)
	ended(t, ear{"\xf5", 0}, 1)
	ended(t, ear{"\xf5\xf5", 3}, 5)
	ended(t, ear{x[:5], 0}, 5)
	ended(t, ear{lengthHead(200), 0}, 3)
	ended(t, ear{lengthHead(200) + x, 1}, 4, "x")
	ended(t, ear{lengthHead(200) + x + "a" + y + "b", 0}, 5, "x", "yy")
	ended(t, ear{lengthHead(200) + lengthHead(190) + x + lengthHead(100) + y, 0}, 9, "x", "yy")
	ended(t, ear{lengthHead(200) + lengthHead(190) + x + lengthHead(100), 2}, 11, "x")
	ended(t, ear{"\xf5\x00" + x, 0}, 2, "x")
	ended(t, ear{"\xf5" + "\x00" + "\xf5\x00", 0}, 4)
	ended(t, ear{lengthHead(260) + long(261), 0}, 264)
	ended(t, ear{lengthHead(260) + modelFrame(long(250)), 0}, 3, long(250))
	ended(t, ear{lengthHead(20) + modelFrame(long(17))[:20], 0}, 23)
	ended(t, ear{"", math.MaxInt}, math.MaxInt)
	ended(t, ear{"\xf5", math.MaxInt - 1}, math.MaxInt)
	ended(t, ear{"\xf5", math.MaxInt}, 0)
	ended(t, ear{lengthHead(200) + x, math.MaxInt - 9}, math.MaxInt-6, "x")
	ended(t, ear{lengthHead(200) + x, math.MaxInt - 8}, 0)
	ended(t, ear{"", -1}, 0)
	ended(t, ear{"x", 5}, 0)
	ended(t, ear{x, 5}, 0)
	ended(t, ear{long(271), 5}, 0)
}

// Streams that are cut at each byte come to what they come to at once.
func TestStreamsCutAtEachByte(t *testing.T) {
	x := modelFrame("x")
	for _, b := range []string{
		x, x + x, "abc" + x + "d", "\xf5\x00" + x, "\xf5\xf5" + x + "\xf5", lengthHead(6) + x + "\x00\x00", lengthHead(200) + x, x + lengthHead(3) + x, modelFrame(x) + x,
		modelFrame(modelSayBytes(ask(1, 2, "x"))) + "??" + modelFrame(modelSayBytes(greatestSay)), modelFrame(long(260)) + "\xf5", strings.Repeat("\xf5\x00\x01", 6), strings.Repeat("\xf5\x01\x04", 100) + x,
	} {
		wantLeft, wantHeard := modelWalk(ear{buf: b}, false)
		end, wantWhole := modelWalk(ear{buf: b}, true)
		for one := range len(b) + 1 {
			e, heard, ok := feeds(b[:one], b[one:])
			if !ok || e != wantLeft || !sameTexts(heard, wantHeard) {
				t.Errorf("%.60q at %d: %v %q", b, one, e, heard)
			}
			if heard, n, ok := whole(b[:one], b[one:]); !ok || n != end.lost || !sameTexts(heard, wantWhole) {
				t.Errorf("%.60q at %d: %q %d", b, one, heard, n)
			}
			for two := one; two <= len(b) && len(b) < 30; two++ {
				if e, heard, ok := feeds(b[:one], b[one:two], b[two:]); !ok || e != wantLeft || !sameTexts(heard, wantHeard) {
					t.Errorf("%.60q at %d and %d: %v %q", b, one, two, e, heard)
				}
			}
		}
		var each []string
		for at := range len(b) {
			each = append(each, b[at:at+1], "")
		}
		if e, heard, ok := feeds(each...); !ok || e != wantLeft || !sameTexts(heard, wantHeard) {
			t.Errorf("%.60q byte by byte: %v %q", b, e, heard)
		}
	}
}

func TestStreamsAgainstModel(t *testing.T) {
	r := rand.New(rand.NewSource(180))
	heardAll, waited := 0, 0
	for range 3000 {
		b := randomStream(r, r.Intn(8))
		from, _ := modelWalk(ear{buf: randomStream(r, r.Intn(3)), lost: r.Intn(5)}, false)
		left, heard, ok := modelFeed(from, b)
		if !ok {
			t.Fatal(from)
		}
		fed(t, from, b, left, heard...)
		last, lost := modelFinish(left)
		ended(t, left, lost, last...)
		earOk(t, left, true)
		raw := ear{buf: b}
		earOk(t, raw, modelEarOk(raw))
		heardAll += len(heard)
		waited += oneIf(left.buf != "")
	}
	if heardAll < 2500 || waited < 1000 {
		t.Fatal(heardAll, waited)
	}
	// few marks and lengths, so that much looks like a frame
	for range 3000 {
		b := make([]byte, r.Intn(60))
		for i := range b {
			b[i] = "\xf5\xf5\x00\x00\x01\x02\x04"[r.Intn(7)]
		}
		left, heard, _ := modelFeed(ear{}, string(b))
		fed(t, ear{}, string(b), left, heard...)
		last, lost := modelFinish(left)
		ended(t, left, lost, last...)
	}
}

// streamSays holds SplitSays against what is told and the model.
func streamSays(t *testing.T, b string, wantLost int, want ...impl.Say) {
	t.Helper()
	if says, lost := impl.SplitSays([]byte(b)); lost != wantLost || !sameSays(says, want) {
		t.Errorf("%.80q: %+v %d, not %+v %d", b, says, lost, want, wantLost)
	}
	if says, lost := modelSays(b); lost != wantLost || !sameSays(says, want) {
		t.Errorf("%.80q: the model says %+v %d", b, says, lost)
	}
}

func TestWordsOfStreams(t *testing.T) {
	a, g, w := ask(1, 2, "x"), gone(2, 1, "y"), tell(3, 4, "sum", -5, ver("x", 1), ver("y", 2))
	fa, fg, fw := sayFrame(a), sayFrame(g), sayFrame(w)
	x := modelFrame("x")
	streamSays(t, "", 0)
	if says, lost := impl.SplitSays(nil); len(says) > 0 || lost != 0 {
		t.Error(says, lost)
	}
	streamSays(t, fa, 0, a)
	streamSays(t, fa+fg+fw+fa, 0, a, g, w, a)
	streamSays(t, fw+fa, 0, w, a)
	streamSays(t, "ab"+fa+"\xf5"+fg+"c", 4, a, g)
	// bodies that are no words: their bytes belong to none
	streamSays(t, x, 6)
	streamSays(t, x+fa+x+x+fg, 18, a, g)
	streamSays(t, modelFrame(modelSayBytes(a)+"\x00")+fa, 13, a)
	streamSays(t, modelFrame(said("\x01\x01\x01\x01x"))+fg, 12, g)
	streamSays(t, modelFrame(fa)+fg, len(fa)+5, g)
	streamSays(t, modelFrame(long(260)), 265)
	// a length that is never filled, and what stands behind it
	streamSays(t, lengthHead(200)+fa, 3, a)
	streamSays(t, fg+lengthHead(260)+fa+x+fw+"\xf5", 3+6+1, g, a, w)
	streamSays(t, fa[:11], 11)
	streamSays(t, fa+fg[:5], 5, a)
	streamSays(t, modelSayBytes(a), 7)
	// just as many bytes as may be, and more
	streamSays(t, long(4000), 4000)
	streamSays(t, long(4000-12)+fa, 3988, a)
	streamSays(t, fa+long(4000-12), 3988, a)
	streamSays(t, strings.Repeat("\xf5", 4000), 4000)
	var many []impl.Say
	for range 333 {
		many = append(many, a)
	}
	streamSays(t, strings.Repeat(fa, 333)+"abcd", 4, many...)
	for _, size := range []int{4001, 4002, 8000} {
		streamSays(t, long(size), 0)
		streamSays(t, strings.Repeat(fa, 700)[:size], 0)
	}
}

func sayFrame(s impl.Say) string { return modelFrame(modelSayBytes(s)) }

func TestWordsOfStreamsAgainstModel(t *testing.T) {
	r := rand.New(rand.NewSource(181))
	seen := 0
	for range 3000 {
		b := randomStream(r, r.Intn(9))
		says, lost := modelSays(b)
		streamSays(t, b, lost, says...)
		seen += len(says)
	}
	if seen < 1500 {
		t.Fatal(seen)
	}
}
