package tests

import (
	"math"
	"math/rand"
	"slices"
	"strings"
	"testing"

	"loop.example/headrace/impl"
)

// The model of windows holds each two items against each other, not only neighbours, and puts behind a list of any length what it then cuts.

func modelWindowOk(w []impl.Item) bool {
	for i, it := range w {
		if len(it.Stamp) == 0 || !modelStampOk(it.Stamp) {
			return false
		}
		for _, other := range w[:i] {
			if !sameSources(other, it) || modelOrder(other.Stamp, it.Stamp) != impl.StampLess {
				return false
			}
		}
	}
	return len(w) < 5
}

func sameSources(a, b impl.Item) bool {
	v, w := versionsOf(a.Stamp), versionsOf(b.Stamp)
	for src := range v {
		if _, ok := w[src]; !ok {
			return false
		}
	}
	return len(v) == len(w)
}

func lastOf[T any](l []T, most int) []T { return l[max(0, len(l)-most):] }

func modelPut(w []impl.Item, it impl.Item) ([]impl.Item, int) {
	if !modelWindowOk(w) || !modelWindowOk([]impl.Item{it}) {
		return nil, impl.WinBad
	}
	more := append(slices.Clone(w), it)
	if !modelWindowOk(lastOf(more, 2)) {
		return w, impl.WinOld
	}
	return lastOf(more, 4), impl.WinTaken
}

func modelFind(w []impl.Item, src string, ver int) int {
	found := -1
	for at, it := range w {
		if has, ok := versionsOf(it.Stamp)[src]; ok && has <= ver && modelWindowOk(w) {
			found = at
		}
	}
	return found
}

func item(val int, text string) impl.Item { return impl.Item{Val: val, Stamp: marks(text)} }

// window has items whose stamps are parted by bars; their values are 100 and their places.
func window(text string) []impl.Item {
	if text == "" {
		return nil
	}
	var w []impl.Item
	for at, stamp := range strings.Split(text, "|") {
		w = append(w, item(100+at, stamp))
	}
	return w
}

func sameItem(a, b impl.Item) bool    { return a.Val == b.Val && sameMarks(a.Stamp, b.Stamp) }
func sameItems(a, b []impl.Item) bool { return slices.EqualFunc(a, b, sameItem) }

// windowOk holds WindowOk, and whatever hangs on it, against the model and what is told.
func windowOk(t *testing.T, w []impl.Item, want bool) {
	t.Helper()
	if impl.WindowOk(w) != want || modelWindowOk(w) != want {
		t.Errorf("%v: %v, the model %v", w, impl.WindowOk(w), modelWindowOk(w))
	}
	it, ok := impl.WindowLast(w)
	if ok != (want && len(w) > 0) || ok && !sameItem(it, w[len(w)-1]) || !ok && !sameItem(it, impl.Item{}) {
		t.Errorf("%v: the last is %v %v", w, it, ok)
	}
	for _, next := range []impl.Item{item(7, "x:1"), item(7, "x:1099511627776 y:1099511627776"), item(7, ""), {Val: 7, Stamp: wideMarks(13)}} {
		put(t, w, next)
	}
	for _, src := range []string{"x", "y", "source00", "q", ""} {
		for _, n := range []int{math.MinInt, 0, 1, 2, 1 << 40, math.MaxInt} {
			if got := impl.WindowFind(w, src, n); got != modelFind(w, src, n) {
				t.Errorf("%v: %q %d is at %d", w, src, n, got)
			}
		}
	}
}

// put holds WindowPut against the model.
func put(t *testing.T, w []impl.Item, it impl.Item) ([]impl.Item, int) {
	t.Helper()
	got, code := impl.WindowPut(w, it)
	want, wantCode := modelPut(w, it)
	if code != wantCode || !sameItems(got, want) {
		t.Errorf("%v into %v: %v %d, not %v %d", it, w, got, code, want, wantCode)
	}
	return got, code
}

func TestItemsThatAreAWindow(t *testing.T) {
	windowOk(t, nil, true)
	windowOk(t, []impl.Item{}, true)
	for _, text := range []string{
		"x:1", "x:1099511627776", "x:1|x:2", "x:1|x:9|x:10|x:11", "x:1|x:2|x:3|x:1099511627776", "x:1 y:1|x:1 y:2|x:2 y:2|x:3 y:3", "a:1 x:5 y:1|a:1 x:5 y:2|a:2 x:5 y:2", "-:1|-:2", "x:1 y:9|x:2 y:9",
	} {
		windowOk(t, window(text), true)
	}
	for _, text := range []string{
		"x:1|x:2|x:3|x:4|x:5", "x:1|x:2|x:3|x:4|x:5|x:6|x:7|x:8",
		// stamps
		"|", "x:1|", "|x:1", "x:1||x:2", "x:0", "x:1|x:1099511627777", "y:1 x:1", "y:1 x:1|y:2 x:2", "x:-1|x:1", "x:1 x:2", "X:1", "abcdefghi:1",
		// sources
		"x:1|y:2", "x:1|x:2 y:1", "x:1|x:1 y:1", "x:1 y:1|x:2", "x:1 y:1|x:2 z:2", "x:1 y:1|y:2", "a:1 x:1|x:2", "x:1|x:2|y:3", "x:1|x:2|x:3 y:1", "x:1|x:1 y:1|x:1 y:1 z:1", "x:1|xx:2",
		// order
		"x:1|x:1", "x:2|x:1", "x:1|x:2|x:2", "x:1|x:2|x:1", "x:1|x:3|x:2", "x:1 y:2|x:2 y:1", "x:1 y:1|x:2 y:2|x:1 y:3", "x:2|x:1|x:3", "x:1 y:1|x:1 y:1", "x:1|x:2|x:3|x:3",
	} {
		windowOk(t, window(text), false)
	}
	for _, bad := range noStamps {
		windowOk(t, []impl.Item{{Val: 1, Stamp: bad}}, false)
		windowOk(t, []impl.Item{item(1, "x:1"), {Val: 1, Stamp: bad}}, false)
	}
	windowOk(t, []impl.Item{{Val: 1, Stamp: wideMarks(12)}}, true)
	for _, val := range edgeNums {
		windowOk(t, []impl.Item{item(val, "x:1"), item(-val, "x:2"), item(val, "x:3")}, true)
	}
}

func TestItemsThatArePut(t *testing.T) {
	for _, c := range []struct {
		w, it, want string
		code        int
	}{
		{"", "x:1", "x:1", impl.WinTaken}, {"", "x:5 y:1", "x:5 y:1", impl.WinTaken}, {"x:1", "x:2", "x:1|x:2", impl.WinTaken}, {"x:1", "x:9", "x:1|x:9", impl.WinTaken},
		{"x:1|x:2|x:3", "x:4", "x:1|x:2|x:3|x:4", impl.WinTaken}, {"x:1|x:2|x:3|x:4", "x:5", "x:2|x:3|x:4|x:5", impl.WinTaken}, {"x:1 y:1", "x:1 y:2", "x:1 y:1|x:1 y:2", impl.WinTaken},
		// the same, less, apart
		{"x:2", "x:2", "x:2", impl.WinOld}, {"x:2", "x:1", "x:2", impl.WinOld}, {"x:1|x:3", "x:2", "x:1|x:3", impl.WinOld}, {"x:1 y:2", "x:2 y:1", "x:1 y:2", impl.WinOld}, {"x:1|x:2|x:3|x:4", "x:4", "x:1|x:2|x:3|x:4", impl.WinOld}, {"x:1|x:2|x:3|x:4", "x:1", "x:1|x:2|x:3|x:4", impl.WinOld},
		// other sources
		{"x:1", "y:2", "x:1", impl.WinOld}, {"x:1", "x:2 y:1", "x:1", impl.WinOld}, {"x:1", "x:1 y:1", "x:1", impl.WinOld}, {"x:1 y:1", "x:2", "x:1 y:1", impl.WinOld}, {"x:1 y:1", "x:2 z:2", "x:1 y:1", impl.WinOld}, {"y:1", "x:1 y:2", "y:1", impl.WinOld},
		// no item, no window
		{"", "", "", impl.WinBad}, {"x:1", "", "", impl.WinBad}, {"", "x:0", "", impl.WinBad}, {"x:1", "x:1099511627777", "", impl.WinBad}, {"x:1", "y:1 x:2", "", impl.WinBad}, {"x:1", "x:2 x:3", "", impl.WinBad}, {"x:1", "X:2", "", impl.WinBad},
		{"x:1|x:1", "x:2", "", impl.WinBad}, {"x:2|x:1", "x:3", "", impl.WinBad}, {"x:1|", "x:3", "", impl.WinBad}, {"x:1|x:2|x:3|x:4|x:5", "x:6", "", impl.WinBad}, {"x:1|y:2", "y:3", "", impl.WinBad}, {"x:1|y:2", "x:1", "", impl.WinBad}, {"x:0", "", "", impl.WinBad},
	} {
		it := item(7, c.it)
		got, code := put(t, window(c.w), it)
		var stamps []string
		for _, it := range got {
			stamps = append(stamps, modelStampText(it.Stamp))
		}
		if code != c.code || strings.Join(stamps, "|") != c.want {
			t.Errorf("%q into %q: %v %d", c.it, c.w, stamps, code)
		}
		if code == impl.WinTaken && got[len(got)-1].Val != 7 || code == impl.WinOld && got[len(got)-1].Val == 7 {
			t.Errorf("%q into %q: %v", c.it, c.w, got)
		}
	}
	for _, val := range edgeNums {
		put(t, nil, item(val, "x:1"))
		put(t, window("x:1|x:2|x:3|x:4"), item(val, "x:5"))
	}
	put(t, []impl.Item{{Stamp: wideMarks(11)}}, impl.Item{Stamp: wideMarks(12)})
	put(t, []impl.Item{{Stamp: wideMarks(12)}}, impl.Item{Stamp: wideMarks(13)})
}

func TestWindowLast(t *testing.T) {
	for text, want := range map[string]int{"x:1": 100, "x:1|x:2": 101, "x:1|x:2|x:3": 102, "x:1|x:2|x:3|x:4": 103} {
		if it, ok := impl.WindowLast(window(text)); !ok || it.Val != want {
			t.Errorf("%q: %v %v", text, it, ok)
		}
	}
	for _, text := range []string{"", "|", "x:1|x:1", "x:1|", "x:1|x:2|x:3|x:4|x:5", "x:0", "x:1|y:2"} {
		if it, ok := impl.WindowLast(window(text)); ok || !sameItem(it, impl.Item{}) {
			t.Errorf("%q: %v %v", text, it, ok)
		}
	}
}

func TestWindowFind(t *testing.T) {
	w := window("a:5 x:2 y:3|a:5 x:2 y:4|a:5 x:4 y:4|a:5 x:1099511627776 y:4")
	for _, c := range []struct {
		src       string
		ver, want int
	}{
		{"x", math.MinInt, -1}, {"x", -1, -1}, {"x", 0, -1}, {"x", 1, -1}, {"x", 2, 1}, {"x", 3, 1}, {"x", 4, 2}, {"x", 5, 2}, {"x", 1<<40 - 1, 2}, {"x", 1 << 40, 3}, {"x", 1<<40 + 1, 3}, {"x", math.MaxInt, 3},
		{"y", 2, -1}, {"y", 3, 0}, {"y", 4, 3}, {"y", 5, 3}, {"a", 4, -1}, {"a", 5, 3}, {"a", 6, 3}, {"a", math.MaxInt, 3},
		{"q", 9, -1}, {"q", 0, -1}, {"q", math.MaxInt, -1}, {"", math.MaxInt, -1}, {"X", 9, -1}, {"x ", 9, -1}, {"x:2", 9, -1}, {"\xff", 9, -1}, {"abcdefghi", 9, -1},
	} {
		if got := impl.WindowFind(w, c.src, c.ver); got != c.want || modelFind(w, c.src, c.ver) != c.want {
			t.Errorf("%q %d: %d, not %d", c.src, c.ver, got, c.want)
		}
	}
	for _, text := range []string{"", "|", "x:1|x:1", "x:2|x:1", "x:1|", "x:1|x:2|x:3|x:4|x:5", "x:0", "x:1|y:2", "x:1|x:1099511627777"} {
		for _, n := range []int{math.MinInt, 0, 1, 9, math.MaxInt} {
			if got := impl.WindowFind(window(text), "x", n); got != -1 {
				t.Errorf("%q: %d at %d", text, n, got)
			}
		}
	}
	if got := impl.WindowFind(window("x:7"), "x", 7); got != 0 {
		t.Error(got)
	}
}

// randomItem is an item that stands near the last one, often above it.
func randomItem(r *rand.Rand, w []impl.Item) impl.Item {
	it := impl.Item{Val: int(r.Uint64()) >> r.Intn(64), Stamp: randomMarks(r, 3, 2)}
	if len(w) > 0 && r.Intn(5) > 0 {
		it.Stamp = slices.Clone(w[len(w)-1-r.Intn(min(2, len(w)))].Stamp)
		for range min(len(it.Stamp), 1+r.Intn(2)) {
			it.Stamp[r.Intn(len(it.Stamp))].Ver += r.Intn(4) - 1
		}
	}
	if r.Intn(30) == 0 {
		it.Stamp = turnedMarks(r)
	}
	return it
}

// randomWindow is a window of at most so many items.
func randomWindow(r *rand.Rand, items int) []impl.Item {
	var w []impl.Item
	for range items {
		if more, code := modelPut(w, randomItem(r, w)); code == impl.WinTaken {
			w = more
		}
	}
	return w
}

func TestWindowsAgainstModel(t *testing.T) {
	r := rand.New(rand.NewSource(210))
	codes := [3]int{}
	whole := 0
	for range 6000 {
		w := randomWindow(r, r.Intn(6))
		if len(w) > 0 && r.Intn(3) == 0 {
			at := r.Intn(len(w))
			switch r.Intn(4) {
			case 0:
				w = slices.Insert(slices.Clone(w), at, w[r.Intn(len(w))])
			case 1:
				w[at].Stamp = turnedMarks(r)
			case 2:
				w[at], w[0] = w[0], w[at]
			case 3:
				w = append(slices.Clone(w), randomItem(r, w), randomItem(r, w))
			}
		}
		windowOk(t, w, modelWindowOk(w))
		whole += oneIf(modelWindowOk(w))
		_, code := put(t, w, randomItem(r, w))
		codes[code]++
		for _, src := range []string{manySources[r.Intn(len(manySources))], "a", "x"} {
			n := r.Intn(7) - 1
			if got := impl.WindowFind(w, src, n); got != modelFind(w, src, n) {
				t.Fatalf("%v: %q %d is at %d", w, src, n, got)
			}
		}
	}
	if slices.Min(codes[:]) < 600 || whole < 3000 || whole > 5700 {
		t.Fatal(codes, whole)
	}
}
