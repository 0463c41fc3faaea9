package tests

import (
	"math/rand"
	"slices"
	"strings"
	"testing"

	"loop.example/headrace/impl"
)

// manyRecs tells records at the edges of the document, and random ones.
func manyRecs(seed int64, n int, look func(r *rand.Rand, rec impl.Rec)) {
	r := rand.New(rand.NewSource(seed))
	for _, rec := range wholeRecs {
		look(r, rec)
	}
	for range n {
		look(r, randomRec(r))
	}
}

// somethingBehind is what may stand behind a record: nothing, any bytes, other records, a piece of one.
func somethingBehind(r *rand.Rand) string {
	switch r.Intn(4) {
	case 0:
		return ""
	case 1:
		return someBytes(r, r.Intn(300))
	case 2:
		return joined(randomRecs(r, 1+r.Intn(3)))
	}
	b := modelRecBytes(randomRec(r))
	return b[:r.Intn(len(b))]
}

func TestPromise25BytesOfRecordsAreReadAsThem(t *testing.T) {
	manyRecs(25, 5000, func(r *rand.Rand, rec impl.Rec) {
		b := bytesOf(t, rec)
		for range 4 {
			got, n, ok := impl.RecRead([]byte(b + somethingBehind(r)))
			if !ok || got != rec || n != len(b) {
				t.Fatalf("%+v is read as %+v, %d, %v", rec, got, n, ok)
			}
		}
	})
	for _, rec := range noRecs {
		if b, ok := impl.RecBytes(rec); ok || len(b) > 0 {
			t.Errorf("%+v has bytes", rec)
		}
	}
}

func recIsNotRead(t *testing.T, b []byte) {
	t.Helper()
	if got, n, ok := impl.RecRead(b); ok || n != 0 || got != (impl.Rec{}) {
		t.Fatalf("%q is read as %+v, %d, %v", b, got, n, ok)
	}
}

func TestPromise26NoBeginningIsRead(t *testing.T) {
	manyRecs(26, 3000, func(r *rand.Rand, rec impl.Rec) {
		b := []byte(bytesOf(t, rec))
		for end := range b {
			recIsNotRead(t, b[:end])
		}
	})
}

// The bytes that tell the kind and the lengths are not among those that the promise names.
func TestPromise26NoByteIsAnother(t *testing.T) {
	manyRecs(126, 300, func(r *rand.Rand, rec impl.Rec) {
		b := []byte(bytesOf(t, rec) + somethingBehind(r))
		size := len(modelRecBytes(rec))
		for at := 2; at < size; at++ {
			if rec.Kind == impl.RecDefine && at == 2+len(rec.Name) {
				continue
			}
			was := b[at]
			for c := range 256 {
				if b[at] = byte(c); b[at] != was {
					recIsNotRead(t, b)
				}
			}
			b[at] = was
		}
	})
}

func TestPromise27JustWhatIsWholeIsRead(t *testing.T) {
	r := rand.New(rand.NewSource(27))
	logs := [][]impl.Rec{nil, wholeRecs, randomRecs(r, 200), slices.Repeat([]impl.Rec{remove("x")}, 200), recsOfSize(8000)}
	for range 60 {
		logs = append(logs, randomRecs(r, r.Intn(12)))
	}
	for _, recs := range logs {
		all, size, whole := joined(recs), 0, 0
		for end := range len(all) + 1 {
			if whole < len(recs) && end == size+len(modelRecBytes(recs[whole])) {
				size, whole = end, whole+1
			}
			if end < 1000 || end > len(all)-500 {
				logReads(t, all[:end], recs[:whole], size)
			}
		}
		if b, ok := impl.LogBytes(recs); ok != (len(all) <= impl.DiskMaxSize) || ok && string(b) != all {
			t.Fatalf("%d records: %d bytes %v", len(recs), len(b), ok)
		}
	}
}

// opened opens a disk until it is done: where that falls the disk rises with the next fuse.
func opened(t *testing.T, s shelf) (shelf, []impl.Rec) {
	t.Helper()
	for range 2 {
		got, recs := logOpen(s)
		if got.code == impl.DiskDone {
			return got.shelf, recs
		}
		if got.code != impl.DiskDown || len(recs) > 0 {
			t.Fatalf("%v opened: %v", s, got)
		}
		if s, _ = rise(got.shelf, -1); s.fuse != -1 {
			t.Fatal(got)
		}
	}
	t.Fatal("it falls and falls")
	return shelf{}, nil
}

func TestPromise28OpenedDisks(t *testing.T) {
	r := rand.New(rand.NewSource(28))
	for range 3000 {
		recs := randomRecs(r, r.Intn(6))
		log := joined(recs)
		all := log
		if r.Intn(3) > 0 {
			torn := modelRecBytes(randomRec(r))
			all += torn[:r.Intn(len(torn))]
		}
		parts := r.Intn(len(all) + 1)
		s, got := opened(t, shelf{safe: all[:parts], soft: all[parts:], fuse: r.Intn(3) - 1})
		if s.all() != log || !slices.Equal(got, recs) {
			t.Fatalf("%v came to %v", recs, got)
		}
		if again, got := logOpen(s); again != (worked{s, impl.DiskDone}) || !slices.Equal(got, recs) {
			t.Fatalf("%v opened once more: %v", s, again)
		}
		s.fuse = -1
		more := randomRec(r)
		put := logPut(s, more)
		if put != (worked{shelf{safe: log + modelRecBytes(more), fuse: -1}, impl.DiskDone}) {
			t.Fatalf("%v with %v: %v", s, more, put)
		}
		if again, got := logOpen(put.shelf); again.shelf != put.shelf || !slices.Equal(got, append(recs, more)) {
			t.Fatalf("%v and %v came to %v", recs, more, got)
		}
	}
	for _, s := range append(noDisks, lying(""), lying("\x00")) {
		got, recs := logOpen(s)
		if s.ok() && got != (worked{s, impl.DiskDown}) || !s.ok() && got != (worked{shelf{}, impl.DiskBad}) || len(recs) > 0 {
			t.Errorf("%v opened: %v", s, got)
		}
	}
}

// A log lives through falls: what was told as done is there, and at most the record that was under way is there as well.
func TestPromise28ThroughFalls(t *testing.T) {
	r := rand.New(rand.NewSource(128))
	falls := 0
	for range 200 {
		s, kept := shelf{fuse: -1}, []impl.Rec(nil)
		for range 40 {
			rec := randomRec(r)
			put := logPut(s, rec)
			switch put.code {
			case impl.DiskDone:
				kept = append(kept, rec)
				s = put.shelf
				if r.Intn(8) == 0 {
					s, _ = fall(s, r.Intn(9))
				}
			case impl.DiskDown:
				s = put.shelf
			default:
				t.Fatalf("%v with %v: %v", s, rec, put.code)
			}
			if !s.down {
				continue
			}
			falls++
			s, _ = rise(s, r.Intn(80)-1)
			var recs []impl.Rec
			s, recs = opened(t, s)
			if len(recs) == len(kept)+1 && put.code == impl.DiskDown {
				kept = append(kept, rec)
			}
			if !slices.Equal(recs, kept) || s.all() != joined(kept) {
				t.Fatalf("%v came to %v", kept, recs)
			}
		}
	}
	if falls < 1000 {
		t.Fatal(falls)
	}
}

// inPieces writes bytes one piece behind the other, whatever comes of the pieces.
func inPieces(s shelf, pieces []string) worked {
	w := worked{s, impl.DiskDone}
	for _, piece := range pieces {
		w = write(w.shelf, piece)
	}
	return w
}

func TestPromise29PiecesComeToTheSame(t *testing.T) {
	r := rand.New(rand.NewSource(29))
	for _, from := range []shelf{{}, {safe: "abc"}, {soft: "de"}, {safe: "abc", soft: "de"}} {
		const b = "0123456789"
		for fuse := -1; fuse <= len(b)+1; fuse++ {
			from.fuse = fuse
			want := modelWrite(from, b)
			if got := write(from, b); got != want {
				t.Fatalf("%v at once: %v, not %v", from, got, want)
			}
			for one := range len(b) + 1 {
				for two := one; two <= len(b); two++ {
					if got := inPieces(from, []string{b[:one], b[one:two], b[two:]}); got != want {
						t.Fatalf("%v in pieces at %d and %d: %v, not %v", from, one, two, got, want)
					}
				}
			}
			if got := inPieces(from, strings.Split(b, "")); got != want {
				t.Fatalf("%v byte by byte: %v, not %v", from, got, want)
			}
		}
	}
	for range 1500 {
		from := shelf{safe: someBytes(r, r.Intn(500)), soft: someBytes(r, r.Intn(500)), fuse: r.Intn(402) - 1}
		if r.Intn(8) == 0 {
			from.safe = someBytes(r, 7000)
		}
		b := someBytes(r, r.Intn(min(500, impl.DiskMaxSize-len(from.all()))+1))
		if r.Intn(5) == 0 {
			b = someBytes(r, impl.DiskMaxSize-len(from.all()))
		}
		var pieces []string
		for rest := b; rest != ""; {
			n := min(r.Intn(200), len(rest))
			pieces, rest = append(pieces, rest[:n]), rest[n:]
		}
		if got, want := inPieces(from, pieces), write(from, b); got != want && len(pieces) > 0 {
			t.Fatalf("%v: %d bytes in %d pieces come to %v, at once to %v", from, len(b), len(pieces), got, want)
		}
	}
}

// risen is what is there when a disk that lies comes back.
func risen(t *testing.T, s shelf, fuse int) string {
	t.Helper()
	up, ok := rise(s, fuse)
	if !ok {
		t.Fatalf("%v does not rise", s)
	}
	all, ok := impl.DiskAll(up.disk())
	if !ok {
		t.Fatalf("%v is not there", up)
	}
	return string(all)
}

func TestPromise30BehindFallsAndRises(t *testing.T) {
	r := rand.New(rand.NewSource(30))
	least, all := 0, 0
	for range 4000 {
		s := shelf{safe: someBytes(r, r.Intn(12)), soft: someBytes(r, r.Intn(12)), fuse: r.Intn(402) - 1}
		if r.Intn(20) == 0 {
			s.soft = someBytes(r, impl.DiskMaxSize-len(s.safe))
		}
		keep := r.Intn(14)
		if r.Intn(20) == 0 {
			keep = len(s.soft) - 1 + r.Intn(3)
		}
		fell, ok := fall(s, keep)
		if ok != (keep >= 0) {
			t.Fatalf("%v with %d kept: %v", s, keep, ok)
		}
		if !ok {
			continue
		}
		there := risen(t, fell, r.Intn(402)-1)
		if !strings.HasPrefix(s.all(), there) || !strings.HasPrefix(there, s.safe) || len(there) != min(len(s.all()), len(s.safe)+keep) {
			t.Fatalf("%v with %d kept: %.60q", s, keep, there)
		}
		least += oneIf(there == s.safe)
		all += oneIf(there == s.all())
	}
	if least < 200 || all < 200 {
		t.Fatal(least, all)
	}
}

// Falls by the fuse: what is there is a beginning of what the call would have made, and all that it found.
func TestPromise30WhereTheFuseEnds(t *testing.T) {
	r := rand.New(rand.NewSource(130))
	for range 2000 {
		s := shelf{safe: someBytes(r, r.Intn(12)), soft: someBytes(r, r.Intn(12))}
		b := someBytes(r, 1+r.Intn(12))
		s.fuse = r.Intn(len(b))
		if there := risen(t, write(s, b).shelf, -1); there != s.all()+b[:s.fuse] {
			t.Fatalf("%v with %q: %q", s, b, there)
		}
		s.fuse = 0
		for _, w := range []worked{sync(s), cutOff(s, r.Intn(len(s.all())+1))} {
			if there := risen(t, w.shelf, 0); w.code != impl.DiskDown || there != s.all() {
				t.Fatalf("%v: %v, and then %q", s, w, there)
			}
		}
	}
	for _, s := range noDisks {
		if _, ok := fall(s, 0); ok {
			t.Errorf("%v falls", s)
		}
		if _, ok := rise(s, 0); ok {
			t.Errorf("%v rises", s)
		}
	}
}
