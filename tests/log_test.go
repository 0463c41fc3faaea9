package tests

import (
	"math/rand"
	"slices"
	"strings"
	"testing"

	"loop.example/headrace/impl"
)

// The model of the log: records and disks as their models have them.

func modelLogRead(b string) ([]impl.Rec, int) {
	r, size, ok := modelRecRead(b)
	if !ok {
		return nil, 0
	}
	recs, behind := modelLogRead(b[size:])
	if len(recs) == impl.LogMaxRecs {
		behind -= len(modelRecBytes(recs[impl.LogMaxRecs-1]))
		recs = recs[:impl.LogMaxRecs-1]
	}
	return append([]impl.Rec{r}, recs...), size + behind
}

func modelLogPut(s shelf, r impl.Rec) worked {
	recs, size := modelLogRead(s.all())
	switch {
	case !s.ok(), !modelRecOk(r), !s.down && size != len(s.all()):
		return worked{shelf{}, impl.DiskBad}
	case s.down:
		return worked{s, impl.DiskDown}
	case len(recs) > impl.LogMaxRecs-1:
		return worked{s, impl.DiskFull}
	}
	written := modelWrite(s, modelRecBytes(r))
	if written.code != impl.DiskDone {
		return written
	}
	return modelSync(written.shelf)
}

func modelLogOpen(s shelf) (worked, []impl.Rec) {
	if !s.ok() || s.down {
		return modelCut(s, 0), nil
	}
	recs, size := modelLogRead(s.all())
	if size == len(s.all()) {
		return worked{s, impl.DiskDone}, recs
	}
	cut := modelCut(s, size)
	if cut.code != impl.DiskDone {
		recs = nil
	}
	return cut, recs
}

func logPut(s shelf, r impl.Rec) worked {
	d, code := impl.LogPut(s.disk(), r)
	return worked{shelfOf(d), code}
}

func logOpen(s shelf) (worked, []impl.Rec) {
	d, recs, code := impl.LogOpen(s.disk())
	return worked{shelfOf(d), code}, recs
}

// joined are the bytes of records, however many.
func joined(recs []impl.Rec) string {
	var b strings.Builder
	for _, r := range recs {
		b.WriteString(modelRecBytes(r))
	}
	return b.String()
}

// recsOfSize are records that have just so many bytes together (none has fewer than five).
func recsOfSize(size int) []impl.Rec {
	var recs []impl.Rec
	for size > 0 {
		next := min(size, 213)
		if size > next && size-next < 5 {
			next -= 5
		}
		size -= next
		if next < 6 {
			recs = append(recs, remove("x"))
			continue
		}
		recs = append(recs, define("x", strings.Repeat("t", min(next-6, 200))))
		recs[len(recs)-1].Name += "2345678"[:max(0, next-206)]
	}
	return recs
}

func logReads(t *testing.T, b string, want []impl.Rec, size int) {
	t.Helper()
	if recs, n := impl.LogRead([]byte(b)); !slices.Equal(recs, want) || n != size {
		t.Fatalf("%.60q: %d records, %d bytes, not %d, %d", b, len(recs), n, len(want), size)
	}
}

func TestLogsAreRead(t *testing.T) {
	logReads(t, "", nil, 0)
	all := joined(wholeRecs)
	logReads(t, all, wholeRecs, len(all))
	for _, behind := range []string{"\x00", "\x01", "\xff", "\x02\x01x", "\x05\x01x\x00\x00", long(300), bytesOf(t, value("x", 1))[1:]} {
		logReads(t, all+behind, wholeRecs, len(all))
		logReads(t, behind, nil, 0)
		logReads(t, behind+all, nil, 0)
	}
	// What is whole behind something that is not is not read.
	logReads(t, joined(wholeRecs[:3])+"\x00"+joined(wholeRecs[3:]), wholeRecs[:3], len(joined(wholeRecs[:3])))
}

func TestLogsCutAtEachByte(t *testing.T) {
	recs := []impl.Rec{value("x", 5), define("y", "x + 1"), remove("y"), lend("x", 8), define("z", "")}
	all, whole := joined(recs), 0
	for end := range len(all) + 1 {
		for whole < len(recs) && len(joined(recs[:whole+1])) <= end {
			whole++
		}
		logReads(t, all[:end], recs[:whole], len(joined(recs[:whole])))
	}
	if whole != len(recs) {
		t.Fatal(whole)
	}
}

func TestLogsOfManyRecords(t *testing.T) {
	many := randomRecs(rand.New(rand.NewSource(80)), 402)
	for _, n := range []int{1, 199, 200, 201, 202, 400, 402} {
		read := many[:min(n, 200)]
		logReads(t, joined(many[:n]), read, len(joined(read)))
		logReads(t, joined(many[:n])+"\x00", read, len(joined(read)))
	}
	short := slices.Repeat([]impl.Rec{remove("x")}, 201)
	logReads(t, joined(short), short[:200], 1000)
	logReads(t, joined(short[:200]), short[:200], 1000)
	logReads(t, joined(short[:200])[:999], short[:199], 995)
}

func TestBytesOfLogs(t *testing.T) {
	has := func(recs []impl.Rec, want bool) {
		t.Helper()
		b, ok := impl.LogBytes(recs)
		if ok != want || ok && string(b) != joined(recs) || !ok && len(b) > 0 {
			t.Errorf("%d records: %d bytes, %v", len(recs), len(b), ok)
		}
	}
	has(nil, true)
	has([]impl.Rec{}, true)
	has(wholeRecs, true)
	for n, want := range map[int]bool{1: true, 199: true, 200: true, 201: false, 400: false} {
		has(slices.Repeat([]impl.Rec{remove("x")}, n), want)
		has(slices.Repeat([]impl.Rec{value("x", n)}, n), want)
	}
	for _, size := range []int{5, 213, 214, 218, 219, 426, 7990, 7999, 8000, 8001, 8002, 8005, 8213, 9000} {
		recs := recsOfSize(size)
		if len(joined(recs)) != size {
			t.Fatal(size, len(joined(recs)))
		}
		has(recs, size <= 8000)
	}
	for _, bad := range []impl.Rec{{}, remove(""), remove("X"), {Kind: 5, Name: "x"}, lend("x", 0), define("x", long(201)), {Kind: impl.RecValue, Name: "x", Text: "t"}} {
		has([]impl.Rec{bad}, false)
		for at := range 4 {
			recs := slices.Insert([]impl.Rec{remove("a"), value("b", 2), lend("c", 3)}, at, bad)
			has(recs, false)
		}
		has(append(slices.Repeat([]impl.Rec{remove("x")}, 200), bad), false)
		has(append(recsOfSize(8000), bad), false)
	}
	has(slices.Repeat([]impl.Rec{define("abcdefgh", long(200))}, 200), false)
	has(slices.Repeat([]impl.Rec{define("abcdefgh", long(200))}, 37), true)
	has(slices.Repeat([]impl.Rec{define("abcdefgh", long(200))}, 38), false)
}

// someLog tells a log of two records, a new record, and what the disk would have of all three.
func someLog() (string, impl.Rec, string) {
	log, r := joined([]impl.Rec{value("x", 5), define("y", "x + 1")}), value("x", -6)
	return log, r, log + modelRecBytes(r)
}

func TestRecordsArePut(t *testing.T) {
	log, r, all := someLog()
	for parts := range len(log) + 1 {
		for _, fuse := range []int{-1, 14, 15, 400} {
			from := shelf{safe: log[:parts], soft: log[parts:], fuse: fuse}
			if got := logPut(from, r); got != (worked{shelf{safe: all, fuse: max(fuse-14, -1)}, impl.DiskDone}) {
				t.Fatalf("%v: %v", from, got)
			}
		}
		for fuse := range 14 {
			from := shelf{safe: log[:parts], soft: log[parts:], fuse: fuse}
			if got := logPut(from, r); got != (worked{lying(all[:len(log)+fuse]), impl.DiskDown}) {
				t.Fatalf("%v: %v", from, got)
			}
		}
	}
	for _, r := range wholeRecs {
		if got := logPut(shelf{fuse: -1}, r); got != (worked{shelf{safe: modelRecBytes(r), fuse: -1}, impl.DiskDone}) {
			t.Errorf("%+v: %v", r, got)
		}
	}
}

var noRecs = []impl.Rec{{}, remove(""), {Kind: 5, Name: "x"}, lend("x", 0), {Kind: impl.RecRemove, Name: "x", Num: 1}}

// All causes of a code stand beside all that come behind it.
func TestCodesOfPutInTheirOrder(t *testing.T) {
	log, r, _ := someLog()
	bad := worked{shelf{}, impl.DiskBad}
	full := joined(slices.Repeat([]impl.Rec{remove("x")}, 200))
	noRoom := joined(recsOfSize(8000))
	logs := []string{"", log, log + "\x00", log[:len(log)-1], full, full + "\x00", full + modelRecBytes(r), noRoom, noRoom[:7999]}
	for _, s := range noDisks {
		for _, r := range append(noRecs, r) {
			if got := logPut(s, r); got != bad {
				t.Errorf("%v, %v: %v", s, r, got)
			}
		}
	}
	for _, all := range logs {
		for _, no := range noRecs {
			for _, s := range []shelf{{safe: all, fuse: -1}, {soft: all}, lying(all)} {
				if got := logPut(s, no); got != bad {
					t.Errorf("%v, %v: %v", s, no, got)
				}
			}
		}
		if got := logPut(lying(all), r); got != (worked{lying(all), impl.DiskDown}) {
			t.Errorf("%.40q, down: %v", all, got)
		}
		for _, fuse := range []int{-1, 0, 1, 400} {
			for _, s := range []shelf{{safe: all, fuse: fuse}, {soft: all, fuse: fuse}, {safe: all[:len(all)/2], soft: all[len(all)/2:], fuse: fuse}} {
				got, want := logPut(s, r), modelLogPut(s, r)
				if got != want {
					t.Errorf("%v: %v, not %v", s, got, want)
				}
				switch all {
				case "", log:
				case full, noRoom:
					if got != (worked{s, impl.DiskFull}) {
						t.Errorf("%v: %v", s, got)
					}
				default:
					if got != bad {
						t.Errorf("%v: %v", s, got)
					}
				}
			}
		}
	}
}

func TestHowManyRecordsArePut(t *testing.T) {
	s := shelf{fuse: -1}
	for n := range 200 {
		got := logPut(s, value("x", n))
		if got.code != impl.DiskDone || got.safe != s.safe+modelRecBytes(value("x", n)) {
			t.Fatalf("%d: %v", n, got)
		}
		s = got.shelf
	}
	for _, fuse := range []int{-1, 0, 400} {
		s.fuse = fuse
		if got := logPut(s, remove("x")); got != (worked{s, impl.DiskFull}) {
			t.Errorf("%v", got)
		}
	}
	// One fewer, and there is room for one again.
	if got := logPut(cutOff(shelf{safe: s.safe, fuse: -1}, 199*13).shelf, remove("x")); got.code != impl.DiskDone {
		t.Errorf("%v", got)
	}
}

func TestRoomForRecords(t *testing.T) {
	for _, r := range []impl.Rec{remove("x"), value("x", 1), define("abcdefgh", long(200)), define("x", "")} {
		size := len(modelRecBytes(r))
		for _, more := range []int{-6, -5, 0, 1, 2, size} {
			log := joined(recsOfSize(8000 - size + more))
			for _, fuse := range []int{-1, 0, size - 1, size, size + 1} {
				s := shelf{safe: log[:5], soft: log[5:], fuse: fuse}
				got := logPut(s, r)
				if got != modelLogPut(s, r) || (got.code == impl.DiskFull) != (more > 0) {
					t.Errorf("%d more than there is room: %v", more, got)
				}
				if more > 0 && got.shelf != s {
					t.Errorf("%v became %v", s, got)
				}
				if more == 0 && fuse == -1 && len(got.safe) != 8000 {
					t.Errorf("%v became %v", s, got)
				}
			}
		}
	}
}

func opens(t *testing.T, s shelf, want worked, wantRecs []impl.Rec) {
	t.Helper()
	got, recs := logOpen(s)
	if got != want || !slices.Equal(recs, wantRecs) {
		t.Errorf("%v: %v with %d records, not %v with %d", s, got, len(recs), want, len(wantRecs))
	}
	if got, recs := modelLogOpen(s); got != want || !slices.Equal(recs, wantRecs) {
		t.Errorf("%v: the model has %v with %d records, not %v with %d", s, got, len(recs), want, len(wantRecs))
	}
}

func TestLogsAreOpened(t *testing.T) {
	recs := []impl.Rec{value("x", 5), define("y", "x + 1"), remove("y")}
	all := joined(recs)
	for parts := range len(all) + 1 {
		for end := parts; end <= len(all); end++ {
			whole, size := modelLogRead(all[:end])
			for _, fuse := range []int{-1, 0, 1, 2, 400} {
				s := shelf{safe: all[:parts], soft: all[parts:end], fuse: fuse}
				switch {
				case size == end:
					opens(t, s, worked{s, impl.DiskDone}, whole)
				case fuse == 0:
					opens(t, s, worked{lying(all[:end]), impl.DiskDown}, nil)
				default:
					opens(t, s, worked{shelf{safe: all[:size], fuse: max(fuse-1, -1)}, impl.DiskDone}, whole)
				}
			}
		}
		opens(t, lying(all[:parts]), worked{lying(all[:parts]), impl.DiskDown}, nil)
	}
	for _, s := range noDisks {
		opens(t, s, worked{shelf{}, impl.DiskBad}, nil)
	}
	opens(t, shelf{fuse: -1}, worked{shelf{fuse: -1}, impl.DiskDone}, nil)
	opens(t, shelf{}, worked{shelf{}, impl.DiskDone}, nil)
	opens(t, shelf{soft: "\x00"}, worked{lying("\x00"), impl.DiskDown}, nil)
	opens(t, shelf{safe: long(8000), fuse: 1}, worked{shelf{}, impl.DiskDone}, nil)
}

func TestLogsOfManyRecordsAreOpened(t *testing.T) {
	many := slices.Repeat([]impl.Rec{value("x", 7)}, 250)
	for _, n := range []int{199, 200, 201, 250} {
		all := joined(many[:n])
		read := many[:min(n, 200)]
		for _, behind := range []string{"", "\x00"} {
			s := shelf{safe: all[:1300], soft: all[1300:] + behind, fuse: 3}
			want := worked{s, impl.DiskDone}
			if n > 200 || behind != "" {
				want = worked{shelf{safe: joined(read), fuse: 2}, impl.DiskDone}
			}
			opens(t, s, want, read)
			s.fuse = 0
			if want.shelf.fuse == 2 {
				opens(t, s, worked{lying(s.all()), impl.DiskDown}, nil)
			}
		}
	}
	recs := recsOfSize(8000)
	opens(t, shelf{soft: joined(recs), fuse: -1}, worked{shelf{soft: joined(recs), fuse: -1}, impl.DiskDone}, recs)
}

func TestLogsAgainstModel(t *testing.T) {
	r := rand.New(rand.NewSource(81))
	var codes [4]int
	for range 4000 {
		all := joined(randomRecs(r, r.Intn(8)))
		switch r.Intn(40) {
		case 0, 1, 2, 3, 4, 5, 6:
			all = all[:r.Intn(len(all)+1)]
		case 7, 8:
			all += someBytes(r, r.Intn(12))
		case 9:
			all = joined(slices.Repeat([]impl.Rec{remove("x")}, 198+r.Intn(4)))
		case 10:
			all = joined(recsOfSize(7700 + r.Intn(296)))
		case 11:
			all = someBytes(r, r.Intn(30))
		case 12:
			all = joined(slices.Repeat([]impl.Rec{remove("x")}, 200))
		}
		parts := r.Intn(len(all) + 1)
		s := shelf{safe: all[:parts], soft: all[parts:], fuse: r.Intn(40) - 1}
		switch r.Intn(20) {
		case 0:
			s = lying(all)
		case 1:
			s.fuse = []int{-2, 401}[r.Intn(2)]
		case 2, 3, 4:
			s.fuse = -1
		}
		rec := randomRec(r)
		if r.Intn(20) == 0 {
			rec = noRecs[r.Intn(len(noRecs))]
		}
		put, want := logPut(s, rec), modelLogPut(s, rec)
		if put != want {
			t.Fatalf("%v with %v: %v, not %v", s, rec, put, want)
		}
		codes[want.code]++
		opened, recs := logOpen(s)
		want, wantRecs := modelLogOpen(s)
		if opened != want || !slices.Equal(recs, wantRecs) {
			t.Fatalf("%v opened: %v, not %v", s, opened, want)
		}
	}
	for code, n := range codes {
		if n < 50 {
			t.Fatal(code, codes)
		}
	}
}
