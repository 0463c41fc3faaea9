package tests

import (
	"math"
	"math/rand"
	"slices"
	"strings"
	"testing"

	"loop.example/headrace/impl"
)

// books holds MillBook against the model and what is told.
func books(t *testing.T, l []impl.Rec, want bool) ([]impl.Cell, []string) {
	t.Helper()
	cells, gone, ok := impl.MillBook(l)
	wantCells, wantGone, wantOk := modelBook(l)
	if ok != want || wantOk != want || !sameCells(cells, wantCells) || !slices.Equal(gone, wantGone) {
		t.Errorf("%v: %+v %q %v, not %+v %q %v (%v)", l, cells, gone, ok, wantCells, wantGone, wantOk, want)
	}
	if !ok && len(cells)+len(gone) > 0 {
		t.Errorf("%v: %+v %q", l, cells, gone)
	}
	return cells, gone
}

// behind is records, and one more.
func behind(l []impl.Rec, more ...impl.Rec) []impl.Rec { return slices.Concat(l, more) }

func TestBooksOfNoRecords(t *testing.T) {
	for _, l := range [][]impl.Rec{nil, {}} {
		if cells, gone := books(t, l, true); len(cells)+len(gone) > 0 {
			t.Error(cells, gone)
		}
	}
}

func TestWhatEachKindOfRecordTells(t *testing.T) {
	var l []impl.Rec
	empty := func(n int) [][]impl.Item { return make([][]impl.Item, n) }
	x, y := impl.Cell{Name: "x"}, impl.Cell{Name: "y", Body: "x*2 + (let q = far in q) ", Ins: []string{"far", "x"}, Wins: empty(2)}
	z := impl.Cell{Name: "abcdefgh", Body: "d + c + b + a", Ins: []string{"a", "b", "c", "d"}, Wins: empty(4)}
	set := func(c impl.Cell, val, lent int) impl.Cell {
		c.Val, c.Set, c.Lent, c.Ver = val, true, lent, lent
		return c
	}
	lent := impl.Cell{Name: "x", Lent: 3, Ver: 3}
	for _, step := range []struct {
		r     impl.Rec
		cells []impl.Cell
		gone  []string
	}{
		{define("x", ""), []impl.Cell{x}, nil},
		{define("y", y.Body), []impl.Cell{x, y}, nil},
		{lend("x", 3), []impl.Cell{lent, y}, nil},
		{value("x", 5), []impl.Cell{set(x, 5, 3), y}, nil},
		{value("x", -7), []impl.Cell{set(x, -7, 3), y}, nil},
		{define("abcdefgh", z.Body), []impl.Cell{set(x, -7, 3), y, z}, nil},
		{define("w", ""), []impl.Cell{set(x, -7, 3), y, z, {Name: "w"}}, nil},
		{remove("y"), []impl.Cell{set(x, -7, 3), z, {Name: "w"}}, []string{"y"}},
		{value("w", 0), []impl.Cell{set(x, -7, 3), z, set(impl.Cell{Name: "w"}, 0, 0)}, []string{"y"}},
		{lend("x", 11), []impl.Cell{set(x, -7, 11), z, set(impl.Cell{Name: "w"}, 0, 0)}, []string{"y"}},
		{remove("x"), []impl.Cell{z, set(impl.Cell{Name: "w"}, 0, 0)}, []string{"x", "y"}},
		{remove("abcdefgh"), []impl.Cell{set(impl.Cell{Name: "w"}, 0, 0)}, []string{"abcdefgh", "x", "y"}},
		{remove("w"), nil, []string{"abcdefgh", "w", "x", "y"}},
		{define("a", ""), []impl.Cell{{Name: "a"}}, []string{"abcdefgh", "w", "x", "y"}},
	} {
		l = append(l, step.r)
		if cells, gone := books(t, l, true); !sameCells(cells, step.cells) || !slices.Equal(gone, step.gone) {
			t.Errorf("%v: %+v %q, not %+v %q", l, cells, gone, step.cells, step.gone)
		}
	}
	for _, val := range edgeNums {
		if cells, _ := books(t, []impl.Rec{define("x", ""), value("x", val)}, true); !sameCells(cells, []impl.Cell{set(x, val, 0)}) {
			t.Errorf("%d: %+v", val, cells)
		}
	}
}

// someBook tells of two sources, of one signal that leans on one of them, and of a name that is no more.
func someBook() []impl.Rec {
	return []impl.Rec{define("x", ""), define("y", ""), define("s", "x + far"), value("x", 5), lend("x", 8), define("z", ""), remove("z")}
}

// What may not be is nothing wherever it stands, whatever is right ahead of it and behind it.
func tellsNothing(t *testing.T, ahead []impl.Rec, bad impl.Rec, why string) {
	t.Helper()
	if wrong := recWrong(ahead, bad); !slices.Contains(wrong, why) {
		t.Errorf("%v behind %v: %q, not %q", bad, ahead, wrong, why)
	}
	books(t, behind(ahead, bad), false)
	books(t, behind(ahead, bad, define("later", "")), false)
	books(t, behind(ahead, bad, remove("y")), false)
	many := behind(ahead, define("much", ""))
	for n := range 150 {
		many = append(many, value("much", n))
	}
	books(t, many, true)
	books(t, behind(many, bad), false)
	books(t, behind(many, bad, value("much", 1)), false)
}

func TestRecordsThatAreNone(t *testing.T) {
	for _, bad := range []impl.Rec{
		{}, {Kind: 0, Name: "x"}, {Kind: 5, Name: "x"}, {Kind: -1, Name: "x"}, {Kind: 257, Name: "new"}, {Kind: math.MaxInt, Name: "x"}, {Kind: math.MinInt, Name: "x"},
		define("", ""), define("New", ""), define("newnewnew", ""), define("new", strings.Repeat(" ", 200)+"x"), {Kind: impl.RecDefine, Name: "new", Num: 1},
		remove(""), remove("Y"), {Kind: impl.RecRemove, Name: "y", Num: 1}, {Kind: impl.RecRemove, Name: "y", Text: "t"},
		value("", 1), {Kind: impl.RecValue, Name: "x", Num: 1, Text: "t"}, {Kind: impl.RecLend, Name: "x", Num: 9, Text: "t"}, lend("x", 0), lend("x", -1), lend("y", 0), lend("y", math.MinInt), lend("x", 1<<50+1), lend("x", math.MaxInt),
	} {
		tellsNothing(t, someBook(), bad, "record")
	}
}

func TestDefinitionsThatMayNotBe(t *testing.T) {
	for _, name := range []string{"if", "rep", "then", "1", "9a", "-", "a-b", "a-", "-a", "00000000"} {
		tellsNothing(t, someBook(), define(name, ""), "name")
		tellsNothing(t, someBook(), define(name, "x"), "name")
	}
	for _, name := range []string{"x", "y", "s"} {
		tellsNothing(t, someBook(), define(name, ""), "there")
		tellsNothing(t, someBook(), define(name, "y + 1"), "there")
	}
	tellsNothing(t, someBook(), define("s", "x + far"), "there")
	tellsNothing(t, someBook(), define("z", ""), "no more")
	tellsNothing(t, someBook(), define("z", "x"), "no more")
	for _, body := range []string{"u", "u + 1", "x + u", "let x = u in x", "0 and u"} {
		tellsNothing(t, someBook(), define("u", body), "own input")
	}
	tellsNothing(t, someBook(), define("far", ""), "input")
	tellsNothing(t, someBook(), define("far", "y"), "input")
	tellsNothing(t, behind(someBook(), define("late", "later + 1"), define("w", "late")), define("later", ""), "input")
	for _, body := range []string{"7", " ", "1 +", "x y", "X", "let a = 1 in a", "a + b + c + d + e", "x\n", "\x00", "(x", "if x then y"} {
		tellsNothing(t, someBook(), define("u", body), "text")
	}
	// a name that is known within a body is none of its inputs
	books(t, behind(someBook(), define("u", "let u = x in u")), true)
	books(t, behind(someBook(), define("u", "let far = x in far"), define("v", "rep y as v from 1 by v + 1")), true)
	books(t, behind(someBook(), define("u", strings.Repeat(" ", 199)+"x")), true)
	books(t, behind(someBook(), define("u", "a + b + c + d")), true)
}

func TestOtherRecordsThatMayNotBe(t *testing.T) {
	for _, name := range []string{"far", "z", "nope", "if", "a-b", "xx", "0"} {
		tellsNothing(t, someBook(), remove(name), "not there")
		tellsNothing(t, someBook(), value(name, 1), "not there")
		tellsNothing(t, someBook(), lend(name, 9), "not there")
		books(t, []impl.Rec{remove(name)}, false)
		books(t, []impl.Rec{value(name, 1)}, false)
		books(t, []impl.Rec{lend(name, 1)}, false)
	}
	tellsNothing(t, someBook(), remove("x"), "input")
	tellsNothing(t, behind(someBook(), define("w", "s")), remove("s"), "input")
	tellsNothing(t, someBook(), value("s", 1), "body")
	tellsNothing(t, someBook(), lend("s", 1), "body")
	for _, n := range []int{1, 7, 8} {
		tellsNothing(t, someBook(), lend("x", n), "lent")
	}
	for _, n := range []int{1<<40 + 1, 1 << 50} {
		tellsNothing(t, someBook(), lend("x", n), "version")
		tellsNothing(t, someBook(), lend("y", n), "version")
	}
	tellsNothing(t, behind(someBook(), lend("x", 1<<40)), lend("x", 1<<40), "lent")
	for _, n := range []int{9, 10, 1<<40 - 1, 1 << 40} {
		if cells, _ := books(t, behind(someBook(), lend("x", n)), true); cells[0].Lent != n || cells[0].Ver != n {
			t.Errorf("%+v", cells)
		}
	}
	books(t, behind(someBook(), lend("y", 1)), true)
}

// What nobody leans on any more may go, and its name may come where it never was.
func TestInputsThatAreNoneAnyMore(t *testing.T) {
	less := behind(someBook(), remove("s"))
	cells, gone := books(t, behind(less, remove("x"), define("far", ""), value("far", 1)), true)
	if len(cells) != 2 || cells[1].Name != "far" || !slices.Equal(gone, []string{"s", "x", "z"}) {
		t.Error(cells, gone)
	}
	books(t, behind(less, define("far", "x"), define("t", "far")), true)
	tellsNothing(t, behind(less, remove("x")), define("x", ""), "no more")
	tellsNothing(t, behind(less, remove("x")), remove("x"), "not there")
	tellsNothing(t, behind(less, remove("x")), value("x", 1), "not there")
	// two lean on it, one of them goes
	two := behind(someBook(), define("t", "x"), remove("s"))
	tellsNothing(t, two, remove("x"), "input")
	books(t, behind(two, remove("t"), remove("x")), true)
	// it leans on what is no more
	books(t, behind(someBook(), define("t", "z")), true)
	tellsNothing(t, behind(someBook(), define("t", "z")), define("z", ""), "no more")
}

func TestHowManyCells(t *testing.T) {
	for _, body := range []string{"", "far"} {
		var l []impl.Rec
		for n, name := range numbered("n", 20) {
			books(t, l, n <= 16)
			l = append(l, define(name, body))
		}
		tellsNothing(t, l[:15], define("n00", body), "there")
		books(t, behind(l[:15], define("last", "")), true)
		books(t, behind(l[:15], define("last", "n00")), true)
		books(t, behind(l[:16], define("last", "")), false)
		books(t, behind(l[:16], remove("n03"), define("last", "")), true)
		books(t, behind(l[:16], remove("n03"), define("last", ""), define("more", "")), false)
	}
	var l []impl.Rec
	for _, name := range numbered("n", 99) {
		l = append(l, define(name, ""), remove(name))
	}
	if cells, gone := books(t, l, true); len(cells) > 0 || !slices.Equal(gone, numbered("n", 99)) {
		t.Error(cells, gone)
	}
}

// No limit is told of how many records there are.
func TestBooksOfManyRecords(t *testing.T) {
	l := []impl.Rec{define("x", "")}
	for n := range 1000 {
		l = append(l, value("x", n), lend("x", n+1))
	}
	cells, gone, ok := impl.MillBook(l)
	if !ok || len(gone) > 0 || !sameCells(cells, []impl.Cell{{Name: "x", Val: 999, Set: true, Lent: 1000, Ver: 1000}}) {
		t.Error(cells, gone, ok)
	}
	if _, _, ok := impl.MillBook(append(l, lend("x", 1000))); ok {
		t.Error("the last of them is not looked at")
	}
}

func TestWhereNamesThatAreNoMoreStand(t *testing.T) {
	names := []string{"a", "ab", "b", "b0", "ba"}
	var l []impl.Rec
	for _, name := range names {
		l = append(l, define(name, ""))
	}
	r := rand.New(rand.NewSource(300))
	for range 150 {
		less, gone := l, []string(nil)
		for _, at := range r.Perm(len(names)) {
			less = behind(less, remove(names[at]))
			gone = slices.Sorted(slices.Values(append(gone, names[at])))
			if _, got := books(t, less, true); !slices.Equal(got, gone) {
				t.Fatalf("%v: %q, not %q", less, got, gone)
			}
		}
	}
}

func TestBooksAgainstModel(t *testing.T) {
	r := rand.New(rand.NewSource(301))
	seen := map[string]int{}
	for n := range 4000 {
		l := randomBook(r, r.Intn(40))
		books(t, l, true)
		bad := randomRecord(r, l)
		switch n % 6 {
		case 0:
			bad = randomRec(r)
		case 1:
			bad.Name = noNames[r.Intn(len(noNames))]
		case 2:
			bad.Num = []int{0, 1, -1, 1 << 40, 1<<40 + 1, 1 << 50}[r.Intn(6)]
		case 3:
			bad.Text = bentBody(r, bad.Text)
		}
		wrong := recWrong(l, bad)
		for _, why := range wrong {
			seen[why]++
		}
		books(t, behind(l, bad), len(wrong) == 0)
		books(t, behind(l, bad, define("later", "")), len(wrong) == 0)
	}
	for _, why := range strings.Fields("record name there own input text body lent version") {
		if seen[why] < 10 && why != "own" {
			t.Errorf("%q: %v", why, seen)
		}
	}
	if seen["no more"] < 10 || seen["not there"] < 10 || seen["own input"] < 10 {
		t.Error(seen)
	}
}
