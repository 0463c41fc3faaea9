package tests

import (
	"fmt"
	"math"
	"math/rand"
	"slices"
	"strings"

	"loop.example/headrace/impl"
)

// The model of streams: of what has come, and then of a stream that has ended, each frame is looked for among all that could begin where one is; one who waits keeps all from there on.

type ear struct {
	buf  string
	lost int
}

func earOf(s impl.Split) ear    { return ear{string(s.Buf), s.Lost} }
func (e ear) split() impl.Split { return impl.Split{Buf: []byte(e.buf), Lost: e.lost} }
func (e ear) String() string {
	return fmt.Sprintf("{%d waiting %.40q, %d lost}", len(e.buf), e.buf, e.lost)
}

// frameAhead is the body of the frame with which bytes begin.
func frameAhead(b string) (string, bool) {
	size := modelFrameSize(b)
	if size < 1 || size > len(b) {
		return "", false
	}
	return modelFrameRead(b[:size])
}

// modelWaits: a mark alone, or with one byte behind it, whatever that is; or a length that is not filled.
func modelWaits(b string) bool {
	return b != "" && b[0] == 245 && (len(b) < 3 || len(b) < modelFrameSize(b))
}

func modelWalk(e ear, ended bool) (ear, []string) {
	var heard []string
	for e.buf != "" && (ended || !modelWaits(e.buf)) {
		if body, ok := frameAhead(e.buf); ok {
			heard = append(heard, body)
			e.buf = e.buf[len(body)+5:]
			continue
		}
		e = ear{e.buf[1:], e.lost + 1}
	}
	return e, heard
}

func modelEarOk(e ear) bool {
	return e.lost >= 0 && len(e.buf) < 271 && (e.buf == "" || modelWaits(e.buf))
}

// fitsInto tells whether all bytes could be passed over and counted.
func fitsInto(e ear, more int) bool {
	return uint(e.lost)+uint(len(e.buf)+more) <= math.MaxInt
}

func modelFeed(e ear, b string) (ear, []string, bool) {
	if !modelEarOk(e) || len(b) > 4000 || !fitsInto(e, len(b)) {
		return ear{}, nil, false
	}
	left, heard := modelWalk(ear{e.buf + b, e.lost}, false)
	return left, heard, true
}

func modelFinish(e ear) ([]string, int) {
	if !modelEarOk(e) || !fitsInto(e, 0) {
		return nil, 0
	}
	left, heard := modelWalk(e, true)
	return heard, left.lost
}

func modelSays(b string) ([]impl.Say, int) {
	if len(b) > 4000 {
		return nil, 0
	}
	_, heard := modelWalk(ear{buf: b}, true)
	var says []impl.Say
	loose := len(b)
	for _, body := range heard {
		if s, ok := modelSayRead(body); ok {
			says = append(says, s)
			loose -= len(modelFrame(body))
		}
	}
	return says, loose
}

func texts(bodies [][]byte) []string {
	var out []string
	for _, body := range bodies {
		out = append(out, string(body))
	}
	return out
}

func feed(e ear, b string) (ear, []string, bool) {
	s, bodies, ok := impl.SplitFeed(e.split(), []byte(b))
	return earOf(s), texts(bodies), ok
}

func finish(e ear) ([]string, int) {
	bodies, lost := impl.SplitEnd(e.split())
	return texts(bodies), lost
}

// feeds lets pieces come one behind the other.
func feeds(pieces ...string) (ear, []string, bool) {
	e, all := ear{}, []string(nil)
	for _, piece := range pieces {
		next, heard, ok := feed(e, piece)
		if !ok {
			return ear{}, nil, false
		}
		e, all = next, append(all, heard...)
	}
	return e, all, true
}

// whole is all that is heard of a stream that comes in pieces and ends, and how much is lost.
func whole(pieces ...string) ([]string, int, bool) {
	e, heard, ok := feeds(pieces...)
	last, lost := finish(e)
	return append(heard, last...), lost, ok
}

// noMarks are bytes without a mark.
func noMarks(r *rand.Rand, n int) string {
	return strings.ReplaceAll(someBytes(r, n), "\xf5", "\x00")
}

// streamPiece is a frame, a word's frame, or what looks like a frame and is none.
func streamPiece(r *rand.Rand) string {
	body := someBytes(r, 1+r.Intn(12))
	if r.Intn(2) == 0 {
		body = modelSayBytes(randomSay(r))
	}
	b := modelFrame(body)
	switch r.Intn(10) {
	case 0:
		return noMarks(r, r.Intn(20))
	case 1:
		return b[:r.Intn(len(b))]
	case 2:
		at := r.Intn(len(b))
		return b[:at] + string([]byte{b[at] + 1 + byte(r.Intn(255))}) + b[at+1:]
	case 3:
		return lengthHead(r.Intn(300))
	case 4:
		return strings.Repeat("\xf5", 1+r.Intn(4))
	case 5:
		return "\xf5" + string([]byte{byte(r.Intn(3))}) + someBytes(r, 2)
	case 6:
		return modelFrame((b + b)[:min(260, 2*len(b))])
	}
	return b
}

func randomStream(r *rand.Rand, pieces int) string {
	var b strings.Builder
	for range pieces {
		b.WriteString(streamPiece(r))
	}
	return b.String()
}

// pieced is a stream in pieces of any size, some of them empty.
func pieced(r *rand.Rand, b string, most int) []string {
	var pieces []string
	for b != "" {
		n := min(r.Intn(most+1), len(b))
		pieces, b = append(pieces, b[:n]), b[n:]
	}
	return pieces
}

func sameTexts(a, b []string) bool { return slices.Equal(a, b) }
