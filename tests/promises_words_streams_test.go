package tests

import (
	"math/rand"
	"slices"
	"strings"
	"testing"

	"loop.example/headrace/impl"
)

// manySays tells words at the edges of the document, and random ones.
func manySays(seed int64, n int, look func(r *rand.Rand, s impl.Say)) {
	r := rand.New(rand.NewSource(seed))
	for _, s := range wholeSays {
		look(r, s)
	}
	for range n {
		look(r, randomSay(r))
	}
}

var noSays = []impl.Say{
	{}, ask(1, 1, "x"), ask(-1, 1, "x"), ask(1, 10, "x"), ask(1, 2, ""), ask(1, 2, "abcdefghi"), gone(1, 2, "X"), {Kind: 4, From: 1, To: 2, Name: "x"},
	{Kind: impl.SayAsk, From: 1, To: 2, Name: "x", Val: 1}, {Kind: impl.SayGone, From: 1, To: 2, Name: "x", Stamp: []impl.Ver{ver("x", 1)}},
	tell(1, 2, "x", 0), tell(1, 2, "x", 0, fullStamp(13)...), tell(1, 2, "x", 0, ver("x", 0)), tell(1, 2, "x", 0, ver("x", 1<<40+1)), tell(1, 2, "x", 0, ver("x", 1), ver("x", 1)), tell(1, 2, "x", 0, ver("y", 1), ver("x", 1)),
}

// wordsOfBodies reads each body as a word; all of them must be some.
func wordsOfBodies(t *testing.T, bodies []string) []impl.Say {
	t.Helper()
	var says []impl.Say
	for _, body := range bodies {
		s, ok := impl.SayRead([]byte(body))
		if !ok {
			t.Fatalf("%q is no word", body)
		}
		says = append(says, s)
	}
	return says
}

func TestPromise31WordsInFramesAreHeardJustSo(t *testing.T) {
	r := rand.New(rand.NewSource(31))
	streams := [][]impl.Say{nil, {ask(1, 2, "x")}, wholeSays[:12], slices.Repeat([]impl.Say{ask(1, 2, "x")}, 12), slices.Repeat([]impl.Say{greatestSay}, 12), wholeSays[len(wholeSays)-12:]}
	for n := range 60 {
		streams = append(streams, randomSays(r, n%13))
	}
	for _, says := range streams {
		var b string
		for _, s := range says {
			word := sayBytes(t, s)
			framed, ok := impl.FrameBytes([]byte(word))
			if !ok {
				t.Fatalf("%q is not framed", word)
			}
			b += string(framed)
		}
		for at := range len(b) + 1 {
			e, heard, ok := feeds(b[:at], b[at:])
			if !ok || e != (ear{}) || !sameSays(wordsOfBodies(t, heard), says) {
				t.Fatalf("%+v cut at %d: %v %q", says, at, e, heard)
			}
			if bodies, lost := finish(e); len(bodies) > 0 || lost != 0 {
				t.Fatalf("%+v at the end: %q %d", says, bodies, lost)
			}
		}
		if got, lost := impl.SplitSays([]byte(b)); !sameSays(got, says) || lost != 0 {
			t.Fatalf("%+v: %+v %d", says, got, lost)
		}
	}
}

func TestPromise32BytesOfWordsAreReadAsThem(t *testing.T) {
	manySays(32, 8000, func(r *rand.Rand, s impl.Say) {
		b := sayBytes(t, s)
		if got, ok := impl.SayRead([]byte(b)); !ok || !sameSay(got, s) {
			t.Fatalf("%+v is read as %+v, %v", s, got, ok)
		}
	})
	for _, s := range noSays {
		if b, ok := impl.SayBytes(s); ok || len(b) > 0 {
			t.Errorf("%+v has bytes", s)
		}
	}
}

// likeWord are bytes with a right sum that are much like a word's.
func likeWord(r *rand.Rand) string {
	b := bareSay(randomSay(r))
	switch r.Intn(5) {
	case 0:
		return said(bareSay(turnedSay(r)))
	case 1:
		return said(b[:r.Intn(len(b)+1)])
	case 2:
		at := r.Intn(len(b))
		return said(b[:at] + someBytes(r, 1) + b[at+1:])
	case 3:
		at := r.Intn(len(b))
		return said(b[:at] + string([]byte{b[at] ^ byte(1<<r.Intn(8))}) + b[at+1:])
	}
	return said(b + someBytes(r, r.Intn(3)))
}

func TestPromise32BytesThatAreReadAreTheWords(t *testing.T) {
	r := rand.New(rand.NewSource(132))
	read := 0
	for range 20000 {
		b := likeWord(r)
		s, ok := impl.SayRead([]byte(b))
		if !ok {
			if !sameSay(s, impl.Say{}) {
				t.Fatalf("%q: %+v", b, s)
			}
			continue
		}
		read++
		if again, ok := impl.SayBytes(s); !ok || string(again) != b || !impl.SayOk(s) {
			t.Fatalf("%q is read as %+v, whose bytes are %q", b, s, again)
		}
	}
	if read < 4000 || read > 16000 {
		t.Fatal(read)
	}
}

func wordIsNotRead(t *testing.T, b []byte) {
	t.Helper()
	if s, ok := impl.SayRead(b); ok || !sameSay(s, impl.Say{}) {
		t.Fatalf("%q is read as %+v, %v", b, s, ok)
	}
}

func TestPromise33NoBeginningAndNoByteMore(t *testing.T) {
	manySays(33, 3000, func(r *rand.Rand, s impl.Say) {
		b := []byte(sayBytes(t, s))
		for end := range b {
			wordIsNotRead(t, b[:end])
		}
		for c := range 256 {
			wordIsNotRead(t, append(slices.Clone(b), byte(c)))
		}
	})
}

// The bytes that the promise names are those of the value and of the sum.
func TestPromise33NoByteIsAnother(t *testing.T) {
	manySays(133, 1500, func(r *rand.Rand, s impl.Say) {
		b := []byte(sayBytes(t, s))
		places := []int{len(b) - 2, len(b) - 1}
		if s.Kind == impl.SayTell {
			for i := range 8 {
				places = append(places, 4+len(s.Name)+i)
			}
		}
		for _, at := range places {
			was := b[at]
			for c := range 256 {
				if b[at] = byte(c); b[at] != was {
					wordIsNotRead(t, b)
				}
			}
			b[at] = was
		}
	})
}

func TestPromise34LinesAreReadAsTheirWords(t *testing.T) {
	manySays(34, 8000, func(r *rand.Rand, s impl.Say) {
		line := impl.SayLine(s)
		if got, ok := impl.SayFrom(line); !ok || !sameSay(got, s) || line == "" {
			t.Fatalf("%+v: %q is read as %+v, %v", s, line, got, ok)
		}
	})
	for _, s := range noSays {
		if line := impl.SayLine(s); line != "" {
			t.Errorf("%+v has the line %q", s, line)
		}
	}
}

// likeLine is a word's line with something done to it that often leaves it another word's.
func likeLine(r *rand.Rand) string { return bent(r, modelLine(randomSay(r))) }

// bent is a line of words with, mostly, something done to one byte or word.
func bent(r *rand.Rand, line string) string {
	at := r.Intn(len(line))
	switch r.Intn(6) {
	case 0:
		return line[:at] + line[at+1:]
	case 1:
		return line[:at] + string(" :-+0123456789axz\t\n"[r.Intn(19)]) + line[at:]
	case 2:
		return line[:at] + string("0123456789abcxyz-+ :"[r.Intn(20)]) + line[at+1:]
	case 3:
		words := strings.Split(line, " ")
		i := r.Intn(len(words))
		return strings.Join(slices.Insert(words, i, words[r.Intn(len(words))]), " ")
	case 4:
		words := strings.Split(line, " ")
		i := r.Intn(len(words))
		return strings.Join(slices.Delete(words, i, i+1), " ")
	}
	return line
}

func TestPromise34LinesThatAreReadAreTheWords(t *testing.T) {
	r := rand.New(rand.NewSource(134))
	read := 0
	for range 30000 {
		line := likeLine(r)
		s, ok := impl.SayFrom(line)
		if !ok {
			if !sameSay(s, impl.Say{}) {
				t.Fatalf("%q: %+v", line, s)
			}
			continue
		}
		read++
		if again := impl.SayLine(s); again != line || !impl.SayOk(s) {
			t.Fatalf("%q is read as %+v, whose line is %q", line, s, again)
		}
	}
	if read < 6000 || read > 25000 {
		t.Fatal(read)
	}
}

func TestPromise35FramesAreTakenOut(t *testing.T) {
	r := rand.New(rand.NewSource(35))
	bodies := slices.Clone(someBodies)
	for size := 1; size <= 260; size++ {
		bodies = append(bodies, someBytes(r, size), strings.Repeat("\xf5", size))
	}
	for _, body := range bodies {
		b, ok := impl.FrameBytes([]byte(body))
		if got, read := impl.FrameRead(b); !ok || !read || string(got) != body || impl.FrameSize(b) != len(b) {
			t.Fatalf("%q: %q %v", body, got, read)
		}
		for at := 3; at < len(b)-2; at++ {
			was := b[at]
			for _, c := range []byte{was + 1, was - 1, was ^ 128, ^was, byte(r.Intn(256)), 0, 245, 255} {
				if b[at] = c; c == was {
					continue
				}
				if got, read := impl.FrameRead(b); read || len(got) > 0 {
					t.Fatalf("%q with %d at %d: %q", body, c, at, got)
				}
			}
			b[at] = was
		}
	}
	for _, body := range []string{"", long(261), long(4000)} {
		if b, ok := impl.FrameBytes([]byte(body)); ok || len(b) > 0 {
			t.Errorf("%d bytes are framed", len(body))
		}
	}
}

func TestPromise36PiecesComeToTheSame(t *testing.T) {
	r := rand.New(rand.NewSource(36))
	for n := range 1500 {
		b := randomStream(r, r.Intn(12))
		if n%10 == 0 {
			b += randomStream(r, 60)
		}
		b = b[:min(len(b), 4000)]
		wantLeft, wantHeard, ok := feeds(b)
		wantWhole, wantLost, wholeOk := whole(b)
		if !ok || !wholeOk {
			t.Fatalf("%q is refused", b)
		}
		for _, most := range []int{1, 3, 10, 300, len(b) + 1} {
			pieces := pieced(r, b, most)
			left, heard, ok := feeds(pieces...)
			if !ok || left != wantLeft || !sameTexts(heard, wantHeard) {
				t.Fatalf("%q in %d pieces: %v %q, at once %v %q", b, len(pieces), left, heard, wantLeft, wantHeard)
			}
			if heard, lost, ok := whole(pieces...); !ok || lost != wantLost || !sameTexts(heard, wantWhole) {
				t.Fatalf("%q in %d pieces and ended: %q %d, at once %q %d", b, len(pieces), heard, lost, wantWhole, wantLost)
			}
		}
	}
}

func TestPromise37EachByteIsHeardOrPassedOver(t *testing.T) {
	r := rand.New(rand.NewSource(37))
	streams := []string{"", "x", "\xf5", long(4000), strings.Repeat("\xf5", 4000), strings.Repeat("\xf5\x00\x01", 1333), strings.Repeat("\xf5\x01\x04", 1333), strings.Repeat(modelFrame("x"), 666), strings.Repeat(modelFrame(long(260)), 15), someBytes(r, 4000), someBytes(r, 3999)}
	for n := range 1500 {
		b := randomStream(r, r.Intn(12))
		if n%10 == 0 {
			b += randomStream(r, 60)
		}
		streams = append(streams, b[:min(len(b), 4000)])
	}
	for _, b := range streams {
		left, heard, ok := feeds(b)
		count := len(left.buf) + left.lost
		for _, body := range heard {
			count += len(body) + 5
		}
		if !ok || count != len(b) {
			t.Fatalf("%.80q: %d of %d bytes are somewhere", b, count, len(b))
		}
		all, lost, _ := whole(b)
		for _, body := range all {
			lost += len(body) + 5
		}
		if lost != len(b) {
			t.Fatalf("%.80q ended: %d of %d bytes are somewhere", b, lost, len(b))
		}
		says, loose := impl.SplitSays([]byte(b))
		for _, s := range says {
			loose += len(sayFrame(s))
		}
		if loose != len(b) {
			t.Fatalf("%.80q: of %d bytes %d are in words' frames or in none", b, len(b), loose)
		}
	}
	for _, size := range []int{4001, 5000} {
		if e, heard, ok := feed(ear{}, long(size)); ok || e != (ear{}) || len(heard) > 0 {
			t.Errorf("%d bytes come", size)
		}
		if says, lost := impl.SplitSays([]byte(long(size))); len(says) > 0 || lost != 0 {
			t.Errorf("%d bytes: %v %d", size, says, lost)
		}
	}
}

func TestPromise38AFrameBehindNoMarkIsHeard(t *testing.T) {
	manySays(38, 3000, func(r *rand.Rand, s impl.Say) {
		ahead := noMarks(r, r.Intn(41))
		word := sayBytes(t, s)
		framed := frame(t, word)
		e, heard, ok := feeds(ahead + framed)
		if !ok || e != (ear{lost: len(ahead)}) || !sameTexts(heard, []string{word}) {
			t.Fatalf("%q ahead of %+v: %v %q", ahead, s, e, heard)
		}
		if says, lost := impl.SplitSays([]byte(ahead + framed)); !sameSays(says, []impl.Say{s}) || lost != len(ahead) {
			t.Fatalf("%q ahead of %+v: %+v %d", ahead, s, says, lost)
		}
	})
	for c := range 256 {
		for _, n := range []int{1, 39, 40} {
			ahead := strings.Repeat(string([]byte{byte(c)}), n)
			if _, heard, _ := feeds(ahead + sayFrame(ask(1, 2, "x"))); len(heard) != 1 {
				t.Errorf("%d of %d: %q", n, c, heard)
			}
		}
	}
}
