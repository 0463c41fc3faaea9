package tests

import (
	"encoding/binary"
	"math/rand"
	"strings"
	"testing"

	"loop.example/headrace/impl"
)

// The model of frames: a frame is what its middle would be framed as.

func lengthHead(n int) string {
	return "\xf5" + string(binary.BigEndian.AppendUint16(nil, uint16(n)))
}

func modelFrame(body string) string { return said(lengthHead(len(body)) + body) }

func modelFrameRead(b string) (string, bool) {
	if len(b) < 6 || len(b) > 265 || modelFrame(b[3:len(b)-2]) != b {
		return "", false
	}
	return b[3 : len(b)-2], true
}

// modelFrameSize looks for the length that the head tells among all that may be.
func modelFrameSize(b string) int {
	for n := 1; n <= 260 && len(b) > 2; n++ {
		if b[:3] == lengthHead(n) {
			return n + 5
		}
	}
	if len(b) > 2 || b != "" && b[0] != 245 {
		return -1
	}
	return 0
}

func frame(t *testing.T, body string) string {
	t.Helper()
	b, ok := impl.FrameBytes([]byte(body))
	if !ok || string(b) != modelFrame(body) {
		t.Fatalf("%q: %v %v", body, b, ok)
	}
	return string(b)
}

// frameReads holds FrameRead and FrameSize against what is told and the model.
func frameReads(t *testing.T, b string, want string, wantOk bool) {
	t.Helper()
	for _, in := range [][]byte{[]byte(b)[:len(b):len(b)], append([]byte(b), "behind the end"...)[:len(b)]} {
		if body, ok := impl.FrameRead(in); string(body) != want || ok != wantOk {
			t.Errorf("%q: %q %v, not %q %v", b, body, ok, want, wantOk)
		}
		if got := impl.FrameSize(in); got != modelFrameSize(b) {
			t.Errorf("%q: %d, not %d", b, got, modelFrameSize(b))
		}
	}
	if body, ok := modelFrameRead(b); body != want || ok != wantOk {
		t.Errorf("%q: the model reads %q %v, not %q %v", b, body, ok, want, wantOk)
	}
}

func noFrame(t *testing.T, b string) {
	t.Helper()
	frameReads(t, b, "", false)
}

var someBodies = []string{
	"\x00", "\xff", "x", "\xf5", "\x01\x02", "\xf5\xf5", "\xf5\x00\x01", "ab\xf5\x00\x02cd", modelFrame("\x01"), modelFrame(modelFrame("x")),
	long(254), long(255), long(256), long(257), long(259), long(260), strings.Repeat("\xf5", 260), strings.Repeat("\x00", 260), strings.Repeat("\xff", 260),
}

// The sums here were reckoned apart from the program and the model.
func TestBytesOfFrames(t *testing.T) {
	if impl.FrameMark != 245 || impl.FrameMax != 260 {
		t.Fatal("limits")
	}
	for body, want := range map[string][]byte{
		"\x01\x02":                     {245, 0, 2, 1, 2, 118, 212},
		"\x00":                         {245, 0, 1, 0, 77, 70},
		"\xf5":                         {245, 0, 1, 245, 78, 59},
		"\x01\x01\x02\x01\x78\x84\x12": {245, 0, 7, 1, 1, 2, 1, 120, 132, 18, 133, 74},
	} {
		if got := frame(t, body); got != string(want) {
			t.Errorf("%q: %v, not %v", body, []byte(got), want)
		}
	}
	for size := range 600 {
		for _, c := range []string{"\x00", "\xf5", "x"} {
			body := strings.Repeat(c, size)
			b, ok := impl.FrameBytes([]byte(body))
			if want := size >= 1 && size <= 260; ok != want || ok && string(b) != modelFrame(body) || !ok && len(b) > 0 {
				t.Errorf("%d bytes: %v %v", size, b, ok)
			}
		}
	}
	for _, size := range []int{4000, 65536, 65537, 65536 + 260} {
		if b, ok := impl.FrameBytes(make([]byte, size)); ok || len(b) > 0 {
			t.Errorf("%d bytes: %v", size, b)
		}
	}
	if b, ok := impl.FrameBytes(nil); ok || len(b) > 0 {
		t.Error(b)
	}
	if big := frame(t, long(260)); len(big) != 265 || big[:3] != "\xf5\x01\x04" {
		t.Errorf("%q", big)
	}
}

func TestSizesOfFrames(t *testing.T) {
	size := func(b string, want int) {
		t.Helper()
		if got := impl.FrameSize([]byte(b)); got != want || modelFrameSize(b) != want {
			t.Errorf("%q: %d, not %d", b, got, want)
		}
	}
	size("", 0)
	if impl.FrameSize(nil) != 0 {
		t.Error("nil")
	}
	for c := range 256 {
		one := string([]byte{byte(c)})
		first := -1
		if c == 245 {
			first = 0
		}
		size(one, first)
		size(one+"\x00", first)
		size(one+"\xff", first)
		size("\xf5"+one, 0)
		if c != 245 {
			size(one+"\x00\x01", -1)
			size(one+"\x01\x04"+long(300), -1)
		}
	}
	for high := range 256 {
		for low := range 256 {
			n := 256*high + low
			want := n + 5
			if n < 1 || n > 260 {
				want = -1
			}
			head := "\xf5" + string([]byte{byte(high), byte(low)})
			size(head, want)
			if n%7 == 0 || n < 300 {
				size(head+"\x00", want)
				size(head+long(n%500), want)
			}
		}
	}
}

func TestFramesAreRead(t *testing.T) {
	for _, body := range someBodies {
		b := frame(t, body)
		frameReads(t, b, body, true)
		for end := range len(b) {
			noFrame(t, b[:end])
		}
		for _, c := range []string{"\x00", "\xf5", "\xff", "x", b} {
			noFrame(t, b+c)
			noFrame(t, c+b)
		}
		noFrame(t, b[1:])
		noFrame(t, said(b[:len(b)-2]+"\x00"))
		if high, low := b[len(b)-2], b[len(b)-1]; high != low {
			noFrame(t, b[:len(b)-2]+string([]byte{low, high}))
		}
	}
	for _, b := range []string{"", "\xf5", "\xf5\x00", "\xf5\x00\x00", "\xf5\x00\x01", "\xf5\x00\x01\x00\x00", "\xf5\x00\x00\x00\x00", "\xf5\x00\x01\x00\x00\x00", long(6), long(265)} {
		noFrame(t, b)
		noFrame(t, said(b))
	}
	for _, n := range []int{0, 261, 262, 512, 4000} {
		noFrame(t, said(lengthHead(n)+strings.Repeat("x", n)))
	}
	// The sum is right, the length is not.
	for n := range 10 {
		for told := range 10 {
			if b := said(lengthHead(told) + long(n)); n == told && n > 0 {
				frameReads(t, b, long(n), true)
			} else {
				noFrame(t, b)
			}
		}
	}
	noFrame(t, said("\xf5\x02\x00"+long(512)))
	noFrame(t, said("\xf5\x00\x04"+long(260)))
	noFrame(t, said("\xf4\x00\x01x"))
	noFrame(t, said("\x00\x00\x01x"))
}

// Each byte of a frame becomes each other byte.
func TestFramesWithAByteTurned(t *testing.T) {
	for _, body := range someBodies {
		b := []byte(frame(t, body))
		for at, was := range b {
			if at > 12 && at < len(b)-6 {
				continue
			}
			for c := range 256 {
				if b[at] = byte(c); b[at] != was {
					noFrame(t, string(b))
				}
			}
			b[at] = was
		}
	}
}

// A sum below 15 could be told a second way, which is none.
func TestSumsOfFramesAreToldOneWay(t *testing.T) {
	seen := 0
	for n := 0; seen < 5; n++ {
		body := eightBytes(n)
		b := frame(t, body)
		if sum := modelSaySum(b[:11]) + 65521; sum < 65536 {
			noFrame(t, b[:11]+string([]byte{byte(sum >> 8), byte(sum)}))
			frameReads(t, b, body, true)
			seen++
		}
	}
}

func TestFramesAgainstModel(t *testing.T) {
	r := rand.New(rand.NewSource(170))
	read := 0
	for range 6000 {
		b := modelFrame(someBytes(r, r.Intn(12)))
		if r.Intn(8) == 0 {
			b = modelFrame(someBytes(r, r.Intn(280)))
		}
		switch r.Intn(6) {
		case 0:
			b = b[:r.Intn(len(b)+1)]
		case 1:
			b += someBytes(r, 1)
		case 2:
			b = said(lengthHead(r.Intn(12)) + someBytes(r, r.Intn(12)))
		}
		body, ok := modelFrameRead(b)
		frameReads(t, b, body, ok)
		read += oneIf(ok)
	}
	if read < 2000 || read > 5000 {
		t.Fatal(read)
	}
}
