package tests

import (
	"bytes"
	"math/rand"
	"slices"
	"testing"
	"unsafe"

	"loop.example/headrace/impl"
)

// guardedSay is a word whose stamp has room behind its end; still tells whether all of that is as it was.
func guardedSay(s impl.Say) (impl.Say, func() bool) {
	room := slices.Clone(s.Stamp)
	for i := range 20 {
		room = append(room, ver("guard", -i))
	}
	want := slices.Clone(room)
	s.Stamp = room[:len(s.Stamp):len(room)]
	return s, func() bool { return slices.Equal(room, want) }
}

// loaned is a text over bytes that may still change.
func loaned(s string) (string, []byte) {
	b := append([]byte(s), 0)
	return unsafe.String(&b[0], len(s)), b
}

func copyOfSay(s impl.Say) impl.Say {
	s.Name = string([]byte(s.Name))
	s.Stamp = slices.Clone(s.Stamp)
	for i := range s.Stamp {
		s.Stamp[i].Src = string([]byte(s.Stamp[i].Src))
	}
	return s
}

// loanedSay is a word whose texts may still change, and what changes them.
func loanedSay(s impl.Say) (impl.Say, func()) {
	s = copyOfSay(s)
	var name []byte
	s.Name, name = loaned(s.Name)
	texts := [][]byte{name}
	for i := range s.Stamp {
		var src []byte
		s.Stamp[i].Src, src = loaned(s.Stamp[i].Src)
		texts = append(texts, src)
	}
	return s, func() {
		for _, text := range texts {
			spoil(text, '!')
		}
		spoil(s.Stamp, ver("spoilt", -1))
	}
}

func TestWordsAreNewMemory(t *testing.T) {
	r := rand.New(rand.NewSource(190))
	for range 4000 {
		plain := turnedSay(r)
		s, still := guardedSay(plain)
		impl.SayOk(s)
		first, ok := impl.SayBytes(s)
		want, line := string(first), impl.SayLine(s)
		second, _ := impl.SayBytes(s)
		spoil(second, 0x5A)
		if again, _ := impl.SayBytes(plain); !still() || string(again) != want || string(first) != want || impl.SayLine(plain) != line {
			t.Fatalf("%+v: bytes that share memory", plain)
		}
		if !ok {
			continue
		}
		in, wantIn := guardedBytes(want)
		word, _ := impl.SayRead(in)
		other, _ := impl.SayRead(in)
		spoil(other.Stamp, ver("spoilt", -1))
		impl.SaySum(in)
		if !bytes.Equal(in[:cap(in)], wantIn) || !sameSay(word, plain) {
			t.Fatalf("%+v is read as %+v", plain, word)
		}
		spoil(in, 0x5A)
		if !sameSay(word, plain) {
			t.Fatalf("%+v: a word that shares memory with its bytes", plain)
		}
	}
}

func TestLinesAreNewMemory(t *testing.T) {
	r := rand.New(rand.NewSource(191))
	for range 2000 {
		plain := randomSay(r)
		want := modelLine(plain)
		line, text := loaned(want)
		word, ok := impl.SayFrom(line)
		other, _ := impl.SayFrom(line)
		spoil(other.Stamp, ver("spoilt", -1))
		if !ok || line != want || !sameSay(word, plain) {
			t.Fatalf("%q is read as %+v", want, word)
		}
		spoil(text, '!')
		if !sameSay(word, plain) {
			t.Fatalf("%q: a word that shares memory with its line", want)
		}
		s, change := loanedSay(plain)
		wrote, b := impl.SayLine(s), []byte(nil)
		b, ok = impl.SayBytes(s)
		change()
		if !ok || wrote != want || string(b) != modelSayBytes(plain) {
			t.Fatalf("%+v: a line or bytes that share memory with the word", plain)
		}
	}
}

func TestFramesAreNewMemory(t *testing.T) {
	r := rand.New(rand.NewSource(192))
	for range 3000 {
		body := someBytes(r, r.Intn(20))
		if r.Intn(10) == 0 {
			body = someBytes(r, 250+r.Intn(14))
		}
		in, wantIn := guardedBytes(body)
		first, ok := impl.FrameBytes(in)
		want := string(first)
		second, _ := impl.FrameBytes(in)
		spoil(second, 0x5A)
		if !bytes.Equal(in[:cap(in)], wantIn) {
			t.Fatalf("%q: its argument became another", body)
		}
		spoil(in, 0x77)
		if ok != (len(body) > 0 && len(body) <= 260) || ok && (string(first) != modelFrame(body) || string(first) != want) {
			t.Fatalf("%q: a frame that shares memory", body)
		}
		if !ok {
			continue
		}
		in, wantIn = guardedBytes(want)
		one, _ := impl.FrameRead(in)
		two, _ := impl.FrameRead(in)
		impl.FrameSize(in)
		spoil(two, 0x5A)
		if !bytes.Equal(in[:cap(in)], wantIn) || string(one) != body {
			t.Fatalf("%q: a body that shares memory", body)
		}
		spoil(in, 0x77)
		if string(one) != body {
			t.Fatalf("%q: a body that shares memory with its frame", body)
		}
	}
}

// shareNothing spoils list by list, with all spare room, and tells whether each was still as told when its turn came.
func shareNothing(lists [][]byte, want []string) bool {
	for i, list := range lists {
		if string(list) != want[i] {
			return false
		}
		spoil(list, byte(0x50+i%7))
	}
	return true
}

func TestStreamsAreNewMemory(t *testing.T) {
	r := rand.New(rand.NewSource(193))
	many := 0
	for range 3000 {
		from, _ := modelWalk(ear{buf: randomStream(r, r.Intn(3)), lost: r.Intn(5)}, false)
		b := randomStream(r, r.Intn(7))
		buf, wantBuf := guardedBytes(from.buf)
		in, wantIn := guardedBytes(b)
		s := impl.Split{Buf: buf, Lost: from.lost}
		impl.SplitOk(s)
		left, heard, _ := impl.SplitFeed(s, in)
		left2, heard2, _ := impl.SplitFeed(s, in)
		last, _ := impl.SplitEnd(s)
		last2, _ := impl.SplitEnd(s)
		wantLeft, wantHeard := modelWalk(ear{from.buf + b, from.lost}, false)
		wantLast, _ := modelFinish(from)
		spoil(left2.Buf, 0x5A)
		for _, body := range append(heard2, last2...) {
			spoil(body, 0x5A)
		}
		spoil(heard2, []byte("spoilt"))
		spoil(last2, []byte("spoilt"))
		if !bytes.Equal(buf[:cap(buf)], wantBuf) || !bytes.Equal(in[:cap(in)], wantIn) {
			t.Fatalf("%v and %q: arguments became others", from, b)
		}
		spoil(buf, 0x77)
		spoil(in, 0x77)
		if !shareNothing(append(slices.Clone(heard), left.Buf), append(wantHeard, wantLeft.buf)) || !shareNothing(last, wantLast) {
			t.Fatalf("%v and %q: answers that share memory", from, b)
		}
		many += oneIf(len(heard) > 1 && len(left.Buf) > 0)
	}
	if many < 200 {
		t.Fatal(many)
	}
}

func TestWordsOfStreamsAreNewMemory(t *testing.T) {
	r := rand.New(rand.NewSource(194))
	many := 0
	for range 2000 {
		b := randomStream(r, r.Intn(9))
		in, wantIn := guardedBytes(b)
		says, lost := impl.SplitSays(in)
		others, _ := impl.SplitSays(in)
		for _, s := range others {
			spoil(s.Stamp, ver("spoilt", -1))
		}
		spoil(others, impl.Say{Kind: 9, Name: "spoilt"})
		if !bytes.Equal(in[:cap(in)], wantIn) {
			t.Fatalf("%q: an argument became another", b)
		}
		spoil(in, 0x77)
		want, wantLost := modelSays(b)
		if lost != wantLost || len(says) != len(want) {
			t.Fatalf("%q: %d words, %d lost", b, len(says), lost)
		}
		for i, s := range says {
			if !sameSay(s, want[i]) {
				t.Fatalf("%q: words that share memory", b)
			}
			spoil(s.Stamp, ver("spoilt", -1))
		}
		many += oneIf(len(says) > 1)
	}
	if many < 100 {
		t.Fatal(many)
	}
}
