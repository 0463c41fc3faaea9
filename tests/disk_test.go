package tests

import (
	"math"
	"strings"
	"testing"

	"loop.example/headrace/impl"
)

func long(n int) string { return strings.Repeat("s", n) }

func TestDisksThatMayBe(t *testing.T) {
	for _, safe := range []int{0, 1, 2, 3999, 4000, 7998, 7999, 8000} {
		for _, more := range []int{-1, 0, 1, 2} {
			soft := impl.DiskMaxSize - safe + more
			if soft < 0 {
				continue
			}
			s := shelf{safe: long(safe), soft: long(soft), fuse: -1}
			if got := impl.DiskOk(s.disk()); got != (more <= 0) {
				t.Errorf("%d safe, %d soft: %v", safe, soft, got)
			}
		}
	}
	for _, down := range []bool{false, true} {
		for _, n := range []int{0, 7999, 8000, 8001, 9000} {
			if got := impl.DiskOk(shelf{safe: long(n), fuse: -1, down: down}.disk()); got != (n <= 8000) {
				t.Errorf("%d safe, %v: %v", n, down, got)
			}
		}
	}
	for fuse, want := range map[int]bool{math.MinInt: false, -3: false, -2: false, -1: true, 0: true, 1: true, 399: true, 400: true, 401: false, math.MaxInt: false} {
		if got := impl.DiskOk(shelf{safe: "a", soft: "b", fuse: fuse}.disk()); got != want {
			t.Errorf("fuse %d: %v", fuse, got)
		}
		if got := impl.DiskOk(shelf{safe: "a", fuse: fuse, down: true}.disk()); got != (fuse == -1) {
			t.Errorf("fuse %d, down: %v", fuse, got)
		}
		if impl.DiskOk(shelf{safe: "a", soft: "b", fuse: fuse, down: true}.disk()) {
			t.Errorf("fuse %d, down, with soft bytes", fuse)
		}
	}
	if !impl.DiskOk(impl.Disk{}) || !impl.DiskOk(impl.Disk{Safe: []byte{}, Soft: []byte{}, Fuse: -1, Down: true}) {
		t.Error("disks without bytes")
	}
}

// noDisks are not ok, each for one reason; both those that are Down and those that are not.
var noDisks = []shelf{
	{safe: "a", fuse: -2}, {safe: "a", fuse: 401}, {safe: "a", fuse: math.MinInt}, {safe: "a", fuse: math.MaxInt},
	{safe: long(8001), fuse: -1}, {soft: long(8001), fuse: -1}, {safe: long(8000), soft: "b", fuse: -1}, {safe: "a", soft: long(8000), fuse: 0},
	{safe: "a", fuse: 0, down: true}, {safe: "a", fuse: 400, down: true}, {safe: "a", fuse: -2, down: true}, {safe: "a", soft: "b", fuse: -1, down: true}, {safe: long(8001), fuse: -1, down: true},
}

func TestDisksThatMayNotBe(t *testing.T) {
	bad := worked{shelf{}, impl.DiskBad}
	for _, s := range noDisks {
		if all, ok := impl.DiskAll(s.disk()); ok || len(all) > 0 {
			t.Errorf("%v: %d bytes", s, len(all))
		}
		for _, b := range []string{"", "b", long(8000), long(8001)} {
			if got := write(s, b); got != bad {
				t.Errorf("%v, %d bytes: %v", s, len(b), got)
			}
		}
		if got := sync(s); got != bad {
			t.Errorf("%v synced: %v", s, got)
		}
		for _, n := range []int{-1, 0, 1, 2, 9000} {
			if got := cutOff(s, n); got != bad {
				t.Errorf("%v cut at %d: %v", s, n, got)
			}
			if got, ok := fall(s, n); ok || got != (shelf{}) {
				t.Errorf("%v fallen with %d: %v", s, n, got)
			}
			if got, ok := rise(s, n); ok || got != (shelf{}) {
				t.Errorf("%v risen with %d: %v", s, n, got)
			}
		}
	}
}

func TestAllOfDisks(t *testing.T) {
	for _, s := range []shelf{{fuse: -1}, {safe: "ab", fuse: -1}, {soft: "cd", fuse: 0}, {safe: "a\x00", soft: "\xffb", fuse: 400}, {safe: long(4000), soft: long(4000), fuse: 3}} {
		if all, ok := impl.DiskAll(s.disk()); !ok || string(all) != s.all() {
			t.Errorf("%v: %d bytes %v", s, len(all), ok)
		}
	}
	for _, s := range []shelf{lying(""), lying("a"), lying(long(8000))} {
		if all, ok := impl.DiskAll(s.disk()); ok || len(all) > 0 {
			t.Errorf("%v: %d bytes %v", s, len(all), ok)
		}
	}
}

func TestWrites(t *testing.T) {
	for _, c := range []struct {
		from shelf
		b    string
		want worked
	}{
		{shelf{fuse: -1}, "abc", worked{shelf{soft: "abc", fuse: -1}, impl.DiskDone}},
		{shelf{safe: "x", soft: "y", fuse: -1}, "ab", worked{shelf{safe: "x", soft: "yab", fuse: -1}, impl.DiskDone}},
		{shelf{safe: "x", soft: "y", fuse: 4}, "abc", worked{shelf{safe: "x", soft: "yabc", fuse: 1}, impl.DiskDone}},
		{shelf{safe: "x", soft: "y", fuse: 3}, "abc", worked{shelf{safe: "x", soft: "yabc", fuse: 0}, impl.DiskDone}},
		{shelf{safe: "x", soft: "y", fuse: 2}, "abc", worked{lying("xyab"), impl.DiskDown}},
		{shelf{safe: "x", soft: "y", fuse: 1}, "abc", worked{lying("xya"), impl.DiskDown}},
		{shelf{safe: "x", soft: "y", fuse: 0}, "abc", worked{lying("xy"), impl.DiskDown}},
		{shelf{safe: "x", soft: "y", fuse: 0}, "", worked{shelf{safe: "x", soft: "y", fuse: 0}, impl.DiskDone}},
		{shelf{safe: "x", soft: "y", fuse: 1}, "", worked{shelf{safe: "x", soft: "y", fuse: 1}, impl.DiskDone}},
		{shelf{fuse: -1}, "", worked{shelf{fuse: -1}, impl.DiskDone}},
		{shelf{}, "a", worked{lying(""), impl.DiskDown}},
		{lying("x"), "abc", worked{lying("x"), impl.DiskDown}},
		{lying("x"), "", worked{lying("x"), impl.DiskDown}},
		{lying("x"), long(8001), worked{lying("x"), impl.DiskDown}},
		{lying(long(8000)), "a", worked{lying(long(8000)), impl.DiskDown}},
	} {
		if got := write(c.from, c.b); got != c.want {
			t.Errorf("%v with %q: %v, not %v", c.from, c.b, got, c.want)
		}
	}
}

func TestRoomOfDisks(t *testing.T) {
	for _, fuse := range []int{-1, 0, 1, 400} {
		for _, from := range []shelf{{fuse: fuse}, {safe: "x", fuse: fuse}, {soft: "y", fuse: fuse}, {safe: long(4000), soft: long(3999), fuse: fuse}, {safe: long(8000), fuse: fuse}, {soft: long(8000), fuse: fuse}} {
			room := impl.DiskMaxSize - len(from.all())
			for _, more := range []int{1, 2, 8000} {
				if got := write(from, strings.Repeat("w", room+more)); got != (worked{from, impl.DiskFull}) {
					t.Errorf("%v with %d more than there is room: %v", from, more, got)
				}
			}
			if got, want := write(from, strings.Repeat("w", room)), modelWrite(from, strings.Repeat("w", room)); got != want || got.code == impl.DiskFull {
				t.Errorf("%v with %d: %v", from, room, got)
			}
		}
	}
	full := write(shelf{safe: "x", fuse: -1}, long(7999))
	if full.code != impl.DiskDone || len(full.soft) != 7999 || full.safe != "x" {
		t.Errorf("%v", full)
	}
}

// Each fuse from none to one more than the steps of a write.
func TestStepsOfWrites(t *testing.T) {
	const b = "abcdefgh"
	for _, from := range []shelf{{}, {safe: "x"}, {soft: "y"}, {safe: "xx", soft: "yy"}} {
		for fuse := range len(b) {
			from.fuse = fuse
			if got := write(from, b); got != (worked{lying(from.all() + b[:fuse]), impl.DiskDown}) {
				t.Errorf("%v: %v", from, got)
			}
		}
		for more := range 3 {
			from.fuse = len(b) + more
			if got := write(from, b); got != (worked{shelf{from.safe, from.soft + b, more, false}, impl.DiskDone}) {
				t.Errorf("%v: %v", from, got)
			}
		}
	}
	for size := 398; size <= 402; size++ {
		got, want := write(shelf{fuse: 400}, long(size)), worked{shelf{soft: long(min(size, 400)), fuse: 400 - size}, impl.DiskDone}
		if size > 400 {
			want = worked{lying(long(400)), impl.DiskDown}
		}
		if got != want {
			t.Errorf("%d bytes: %v", size, got)
		}
	}
}

func TestSyncs(t *testing.T) {
	for _, c := range []struct {
		from shelf
		want worked
	}{
		{shelf{fuse: -1}, worked{shelf{fuse: -1}, impl.DiskDone}},
		{shelf{safe: "x", soft: "yz", fuse: -1}, worked{shelf{safe: "xyz", fuse: -1}, impl.DiskDone}},
		{shelf{safe: "x", soft: "yz", fuse: 2}, worked{shelf{safe: "xyz", fuse: 1}, impl.DiskDone}},
		{shelf{safe: "x", soft: "yz", fuse: 1}, worked{shelf{safe: "xyz", fuse: 0}, impl.DiskDone}},
		{shelf{safe: "x", soft: "yz", fuse: 0}, worked{lying("xyz"), impl.DiskDown}},
		{shelf{safe: "x", fuse: 1}, worked{shelf{safe: "x", fuse: 0}, impl.DiskDone}},
		{shelf{safe: "x", fuse: 0}, worked{lying("x"), impl.DiskDown}},
		{shelf{}, worked{lying(""), impl.DiskDown}},
		{shelf{safe: long(4000), soft: long(4000), fuse: 400}, worked{shelf{safe: long(8000), fuse: 399}, impl.DiskDone}},
		{lying("xyz"), worked{lying("xyz"), impl.DiskDown}},
	} {
		if got := sync(c.from); got != c.want {
			t.Errorf("%v: %v, not %v", c.from, got, c.want)
		}
	}
}

func TestCuts(t *testing.T) {
	const all = "abcdef"
	bad := worked{shelf{}, impl.DiskBad}
	for parts := range len(all) + 1 {
		from := shelf{safe: all[:parts], soft: all[parts:]}
		for at := -2; at <= len(all)+2; at++ {
			for _, fuse := range []int{-1, 0, 1, 2, 400} {
				from.fuse = fuse
				want := worked{shelf{safe: all[:min(max(at, 0), len(all))], fuse: max(fuse-1, -1)}, impl.DiskDone}
				switch {
				case at < 0 || at > len(all):
					want = bad
				case fuse == 0:
					want = worked{lying(all), impl.DiskDown}
				}
				if got := cutOff(from, at); got != want {
					t.Errorf("%v cut at %d: %v, not %v", from, at, got, want)
				}
			}
		}
	}
	for _, at := range []int{0, 1, 3} {
		if got := cutOff(lying("abc"), at); got != (worked{lying("abc"), impl.DiskDown}) {
			t.Errorf("down, at %d: %v", at, got)
		}
	}
	for _, at := range []int{-1, 4, math.MinInt, math.MaxInt} {
		if got := cutOff(lying("abc"), at); got != bad {
			t.Errorf("down, at %d: %v", at, got)
		}
		if got := cutOff(shelf{safe: "abc"}, at); got != bad {
			t.Errorf("with no step left, at %d: %v", at, got)
		}
	}
}

func TestFalls(t *testing.T) {
	for keep, want := range map[int]string{0: "xx", 1: "xxa", 2: "xxab", 3: "xxabc", 4: "xxabc", math.MaxInt: "xxabc"} {
		for _, fuse := range []int{-1, 0, 1, 400} {
			if got, ok := fall(shelf{safe: "xx", soft: "abc", fuse: fuse}, keep); !ok || got != lying(want) {
				t.Errorf("fuse %d, %d kept: %v %v", fuse, keep, got, ok)
			}
		}
		if got, ok := fall(shelf{safe: "xx", fuse: -1}, keep); !ok || got != lying("xx") {
			t.Errorf("%d kept of none: %v %v", keep, got, ok)
		}
		if got, ok := fall(lying("xx"), keep); ok || got != (shelf{}) {
			t.Errorf("down already: %v %v", got, ok)
		}
	}
	for _, keep := range []int{-1, -2, math.MinInt} {
		for _, s := range []shelf{{safe: "xx", soft: "abc", fuse: -1}, {fuse: 0}, lying("xx")} {
			if got, ok := fall(s, keep); ok || got != (shelf{}) {
				t.Errorf("%v, %d kept: %v %v", s, keep, got, ok)
			}
		}
	}
}

func TestRises(t *testing.T) {
	for _, safe := range []string{"", "abc", long(8000)} {
		for _, fuse := range []int{-1, 0, 1, 399, 400} {
			if got, ok := rise(lying(safe), fuse); !ok || got != (shelf{safe: safe, fuse: fuse}) {
				t.Errorf("fuse %d: %v %v", fuse, got, ok)
			}
		}
		for _, fuse := range []int{-2, 401, math.MinInt, math.MaxInt} {
			if got, ok := rise(lying(safe), fuse); ok || got != (shelf{}) {
				t.Errorf("fuse %d: %v %v", fuse, got, ok)
			}
		}
		for _, fuse := range []int{-2, -1, 0, 400, 401} {
			for _, s := range []shelf{{safe: safe, fuse: -1}, {safe: safe}, {safe: safe, fuse: 400}} {
				if got, ok := rise(s, fuse); ok || got != (shelf{}) {
					t.Errorf("up already, fuse %d: %v %v", fuse, got, ok)
				}
			}
		}
	}
}
