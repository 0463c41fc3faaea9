package tests

import (
	"fmt"
	"math/rand"
	"strings"
	"testing"

	"loop.example/headrace/impl"
)

// The model of disks: a disk is two texts, and how many raw steps of a call are done is known ahead of it.

type shelf struct {
	safe, soft string
	fuse       int
	down       bool
}

func shelfOf(d impl.Disk) shelf {
	return shelf{string(d.Safe), string(d.Soft), d.Fuse, d.Down}
}

// String shows only the beginnings of what is long.
func (s shelf) String() string {
	return fmt.Sprintf("{%d safe %.30q, %d soft %.30q, fuse %d, down %v}", len(s.safe), s.safe, len(s.soft), s.soft, s.fuse, s.down)
}

func (s shelf) disk() impl.Disk {
	return impl.Disk{Safe: []byte(s.safe), Soft: []byte(s.soft), Fuse: s.fuse, Down: s.down}
}

func (s shelf) all() string { return s.safe + s.soft }

func (s shelf) ok() bool {
	if s.down {
		return s == shelf{safe: s.safe, fuse: -1, down: true} && len(s.safe) < impl.DiskMaxSize+1
	}
	return len(s.all()) < impl.DiskMaxSize+1 && s.fuse > -2 && s.fuse < impl.DiskMaxOps+1
}

// lasts is how many of so many steps are done.
func (s shelf) lasts(steps int) int {
	if s.fuse < 0 {
		return steps
	}
	return min(steps, s.fuse)
}

// left is the fuse behind so many steps.
func (s shelf) left(steps int) int {
	if s.fuse < 0 {
		return -1
	}
	return s.fuse - steps
}

func lying(all string) shelf { return shelf{safe: all, fuse: -1, down: true} }

// worked is what a call leaves, and its code.
type worked struct {
	shelf
	code int
}

func (w worked) String() string {
	return fmt.Sprintf("%v with code %d", w.shelf, w.code)
}

func modelWrite(s shelf, b string) worked {
	switch {
	case !s.ok():
		return worked{shelf{}, impl.DiskBad}
	case s.down:
		return worked{s, impl.DiskDown}
	case len(s.all()+b) > impl.DiskMaxSize:
		return worked{s, impl.DiskFull}
	}
	if n := s.lasts(len(b)); n < len(b) {
		return worked{lying(s.all() + b[:n]), impl.DiskDown}
	}
	return worked{shelf{s.safe, s.soft + b, s.left(len(b)), false}, impl.DiskDone}
}

func modelCut(s shelf, at int) worked {
	switch {
	case !s.ok(), at < 0, at > len(s.all()):
		return worked{shelf{}, impl.DiskBad}
	case s.down:
		return worked{s, impl.DiskDown}
	case s.lasts(1) == 0:
		return worked{lying(s.all()), impl.DiskDown}
	}
	return worked{shelf{s.all()[:at], "", s.left(1), false}, impl.DiskDone}
}

func modelSync(s shelf) worked {
	return modelCut(s, len(s.all()))
}

func modelFall(s shelf, keep int) (shelf, bool) {
	if !s.ok() || s.down || keep < 0 {
		return shelf{}, false
	}
	return lying(s.safe + s.soft[:min(keep, len(s.soft))]), true
}

func modelRise(s shelf, fuse int) (shelf, bool) {
	if !s.ok() || !s.down || !(shelf{fuse: fuse}).ok() {
		return shelf{}, false
	}
	return shelf{s.safe, "", fuse, false}, true
}

func write(s shelf, b string) worked {
	d, code := impl.DiskWrite(s.disk(), []byte(b))
	return worked{shelfOf(d), code}
}

func cutOff(s shelf, at int) worked {
	d, code := impl.DiskCut(s.disk(), at)
	return worked{shelfOf(d), code}
}

func sync(s shelf) worked {
	d, code := impl.DiskSync(s.disk())
	return worked{shelfOf(d), code}
}

func fall(s shelf, keep int) (shelf, bool) {
	d, ok := impl.DiskFall(s.disk(), keep)
	return shelfOf(d), ok
}

func rise(s shelf, fuse int) (shelf, bool) {
	d, ok := impl.DiskRise(s.disk(), fuse)
	return shelfOf(d), ok
}

// same holds each call on a disk against the model.
func same(t *testing.T, s shelf, b string, n int) {
	t.Helper()
	if got := impl.DiskOk(s.disk()); got != s.ok() {
		t.Fatalf("%v: %v", s, got)
	}
	all, ok := impl.DiskAll(s.disk())
	if ok != (s.ok() && !s.down) || ok && string(all) != s.all() || !ok && len(all) > 0 {
		t.Fatalf("%v: %d bytes %v", s, len(all), ok)
	}
	if got, want := write(s, b), modelWrite(s, b); got != want {
		t.Fatalf("%v with %d bytes: %v, not %v", s, len(b), got, want)
	}
	if got, want := sync(s), modelSync(s); got != want {
		t.Fatalf("%v synced: %v, not %v", s, got, want)
	}
	if got, want := cutOff(s, n), modelCut(s, n); got != want {
		t.Fatalf("%v cut at %d: %v, not %v", s, n, got, want)
	}
	fell, fallen := fall(s, n)
	if want, wantOk := modelFall(s, n); fell != want || fallen != wantOk {
		t.Fatalf("%v fallen with %d: %v %v, not %v", s, n, fell, fallen, want)
	}
	rose, risen := rise(s, n)
	if want, wantOk := modelRise(s, n); rose != want || risen != wantOk {
		t.Fatalf("%v risen with %d: %v %v, not %v", s, n, rose, risen, want)
	}
}

func someBytes(r *rand.Rand, n int) string {
	b := make([]byte, n)
	r.Read(b)
	return string(b)
}

// somewhere is mostly small, sometimes at an edge of disks.
func somewhere(r *rand.Rand) int {
	switch r.Intn(12) {
	case 0:
		return impl.DiskMaxSize - 2 + r.Intn(4)
	case 1:
		return impl.DiskMaxOps - 2 + r.Intn(4)
	case 2:
		return -2 + r.Intn(4)
	}
	return r.Intn(12)
}

func randomShelf(r *rand.Rand) shelf {
	s := shelf{safe: someBytes(r, max(0, somewhere(r))), fuse: somewhere(r)}
	switch r.Intn(4) {
	case 0:
		s.down, s.fuse = true, -1
	case 1:
		s.fuse = -1
	}
	if !s.down || r.Intn(6) == 0 {
		s.soft = someBytes(r, max(0, somewhere(r)))
	}
	if r.Intn(20) == 0 {
		s.down = !s.down
	}
	return s
}

func TestDisksAgainstModel(t *testing.T) {
	r := rand.New(rand.NewSource(60))
	var codes [4]int
	for range 8000 {
		s := randomShelf(r)
		b := someBytes(r, max(0, somewhere(r)))
		if r.Intn(3) == 0 {
			b = strings.Repeat("w", max(0, impl.DiskMaxSize-len(s.all())-1+r.Intn(3)))
		}
		same(t, s, b, somewhere(r))
		same(t, s, b, len(s.all())-1+r.Intn(3))
		codes[modelWrite(s, b).code]++
	}
	for code, n := range codes {
		if n < 500 {
			t.Fatal(code, codes)
		}
	}
}

// Many calls one behind the other: what one leaves is what the next one finds.
func TestDisksThroughManyCalls(t *testing.T) {
	r := rand.New(rand.NewSource(61))
	for range 300 {
		s := shelf{fuse: -1}
		for range 60 {
			b, n := someBytes(r, r.Intn(9)), somewhere(r)
			same(t, s, b, n)
			var next worked
			switch r.Intn(5) {
			case 0, 1:
				next = write(s, b)
			case 2:
				next = sync(s)
			case 3:
				next = cutOff(s, n)
			case 4:
				next.shelf, _ = fall(s, r.Intn(5))
			}
			if s.down {
				next.shelf, _ = rise(s, r.Intn(30)-1)
			}
			if next.ok() && next.shelf != (shelf{}) {
				s = next.shelf
			}
		}
	}
}
