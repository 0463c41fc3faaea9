package tests

import (
	"fmt"
	"maps"
	"math"
	"math/rand"
	"slices"
	"testing"

	"loop.example/headrace/impl"
)

// The model of choices looks at all there are: one agrees if all of its marks fit into one map, and the greatest is told by the latest place in each window of any that agrees.

func modelWinsOk(wins [][]impl.Item) bool {
	for _, w := range wins {
		if !modelWindowOk(w) {
			return false
		}
	}
	return len(wins) > 0 && len(wins) < 7
}

func allChoices(wins [][]impl.Item) [][]int {
	choices := [][]int{nil}
	for _, w := range wins {
		var longer [][]int
		for _, pick := range choices {
			for at := range w {
				longer = append(longer, append(slices.Clone(pick), at))
			}
		}
		choices = longer
	}
	return choices
}

// merged is all marks of a choice; false where a source has two versions.
func merged(wins [][]impl.Item, pick []int) (versions, bool) {
	all := versions{}
	for i, at := range pick {
		for _, m := range wins[i][at].Stamp {
			if n, ok := all[m.Src]; ok && n != m.Ver {
				return nil, false
			}
			all[m.Src] = m.Ver
		}
	}
	return all, true
}

func agreeing(wins [][]impl.Item) [][]int {
	if !modelWinsOk(wins) {
		return nil
	}
	return slices.DeleteFunc(allChoices(wins), func(pick []int) bool {
		_, ok := merged(wins, pick)
		return !ok
	})
}

func later(a, b []int) []int {
	both := slices.Clone(a)
	for i := range both {
		both[i] = max(a[i], b[i])
	}
	return both
}

func modelBest(wins [][]impl.Item) ([]int, bool) {
	agree := agreeing(wins)
	if len(agree) == 0 {
		return nil, false
	}
	best := agree[0]
	for _, pick := range agree {
		best = later(best, pick)
	}
	return best, true
}

func modelAgrees(wins [][]impl.Item, pick []int) bool {
	return slices.ContainsFunc(agreeing(wins), func(other []int) bool { return slices.Equal(pick, other) })
}

func modelChoiceJoin(wins [][]impl.Item, pick []int) ([]impl.Mark, bool) {
	if !modelAgrees(wins, pick) {
		return nil, false
	}
	all, _ := merged(wins, pick)
	if len(all) > 12 {
		return nil, false
	}
	return all.marks(), true
}

// windows has one window a text.
func windows(texts ...string) [][]impl.Item {
	var wins [][]impl.Item
	for _, text := range texts {
		wins = append(wins, window(text))
	}
	return wins
}

// pickIs holds what a choice, or what is none, comes to against the model.
func pickIs(t *testing.T, wins [][]impl.Item, pick []int) {
	t.Helper()
	want := modelAgrees(wins, pick)
	if got := impl.ChoiceAgrees(wins, pick); got != want {
		t.Errorf("%v of %v: %v", pick, wins, got)
	}
	join, ok := impl.ChoiceJoin(wins, pick)
	wantJoin, wantOk := modelChoiceJoin(wins, pick)
	if ok != wantOk || !sameMarks(join, wantJoin) {
		t.Errorf("%v of %v: joined %v %v, not %v %v", pick, wins, join, ok, wantJoin, wantOk)
	}
}

// choose holds ChoiceCount and ChoiceBest against the model, and what it comes to.
func choose(t *testing.T, wins [][]impl.Item) []int {
	t.Helper()
	if got, want := impl.ChoiceCount(wins), len(agreeing(wins)); got != want {
		t.Errorf("%v: %d agree, not %d", wins, got, want)
	}
	best, ok := impl.ChoiceBest(wins)
	want, wantOk := modelBest(wins)
	if ok != wantOk || !slices.Equal(best, want) {
		t.Errorf("%v: the greatest is %v %v, not %v %v", wins, best, ok, want, wantOk)
	}
	pickIs(t, wins, best)
	return best
}

// chooseAll does it with each choice, and with what is none.
func chooseAll(t *testing.T, wins [][]impl.Item) {
	t.Helper()
	choose(t, wins)
	pickIs(t, wins, nil)
	for _, pick := range allChoices(wins) {
		pickIs(t, wins, pick)
		if len(wins) > 3 {
			continue
		}
		pickIs(t, wins, append(slices.Clone(pick), 0))
		for i := range pick {
			pickIs(t, wins, pick[:i])
			for _, at := range []int{math.MinInt, -1, len(wins[i]), len(wins[i]) + 1, math.MaxInt} {
				other := slices.Clone(pick)
				other[i] = at
				pickIs(t, wins, other)
			}
		}
	}
}

func TestGreatestChoices(t *testing.T) {
	for _, c := range []struct {
		wins  [][]impl.Item
		best  []int
		count int
	}{
		{windows("x:1"), []int{0}, 1}, {windows("x:1|x:2|x:3|x:4"), []int{3}, 4}, {windows("x:1|x:2", "y:1|y:2|y:3"), []int{1, 2}, 6},
		// the last items
		{windows("x:1|x:2", "x:1|x:2"), []int{1, 1}, 2}, {windows("x:1 y:1|x:2 y:1", "y:1 z:1|y:1 z:2"), []int{1, 1}, 4},
		// others
		{windows("x:1 y:1|x:1 y:2|x:2 y:2", "y:1 z:1|y:2 z:1|y:3 z:1"), []int{2, 1}, 3}, {windows("x:1|x:2|x:3|x:4", "x:1"), []int{0, 0}, 1}, {windows("x:1|x:3|x:5|x:7", "x:2|x:3|x:4|x:6"), []int{1, 1}, 1},
		{windows("x:1|x:2|x:4", "x:2|x:3"), []int{1, 0}, 1}, {windows("x:1 y:1|x:1 y:2|x:2 y:2", "x:1 z:2"), []int{1, 0}, 2}, {windows("x:1 y:1|x:2 y:2|x:3 y:3", "x:1|x:2|x:3", "y:1|y:2"), []int{1, 1, 1}, 2},
		{windows("x:1|x:2|x:3|x:4", "x:1 y:1|x:2 y:2|x:3 y:3|x:4 y:4", "y:1 z:1|y:2 z:2|y:3 z:3", "z:1|z:2"), []int{1, 1, 1, 1}, 2},
		// a step back lets another one step back whose sources were settled before
		{windows("a:1 b:1|a:2 b:2", "a:1 c:1|a:2 c:2", "b:1 c:1|b:2 c:1"), []int{0, 0, 0}, 1}, {windows("a:1 z:1|a:2 z:1|a:2 z:2", "a:1|a:2", "z:1"), []int{1, 1, 0}, 2}, {windows("z:1", "a:1 z:1|a:2 z:1|a:2 z:2", "a:1|a:2"), []int{0, 1, 1}, 2},
		// none
		{windows("x:1", "x:2"), nil, 0}, {windows("x:1|x:3", "x:2|x:4"), nil, 0}, {windows("x:1 y:2", "x:1 y:1"), nil, 0}, {windows("x:1 y:1|x:2 y:2|x:3 y:3", "x:1|x:2", "y:3"), nil, 0}, {windows("x:2|x:3|x:4|x:5", "x:1"), nil, 0},
		{windows("x:1 y:1|x:1 y:2|x:2 y:2", "y:1 z:1|y:2 z:1|y:3 z:1", "x:1 z:2"), nil, 0}, {windows("x:1 y:2", "x:2 y:1"), nil, 0}, {windows("x:1 y:2|x:3 y:2", "x:2 y:1|x:2 y:2"), nil, 0},
		// empty windows
		{windows(""), nil, 0}, {windows("", ""), nil, 0}, {windows("x:1", ""), nil, 0}, {windows("", "x:1"), nil, 0}, {windows("x:1", "", "y:1"), nil, 0},
		// no windows
		{nil, nil, 0}, {windows("x:0"), nil, 0}, {windows("x:1|x:1"), nil, 0}, {windows("x:1", "y:1|y:1"), nil, 0}, {windows("y:1|", "x:1"), nil, 0}, {windows("x:1|y:2", "x:1"), nil, 0}, {windows("x:1", "x:1|x:2|x:3|x:4|x:5"), nil, 0}, {windows("", "x:2|x:1"), nil, 0},
	} {
		if best := choose(t, c.wins); !slices.Equal(best, c.best) || impl.ChoiceCount(c.wins) != c.count {
			t.Errorf("%v: %v, %d", c.wins, best, impl.ChoiceCount(c.wins))
		}
		chooseAll(t, c.wins)
	}
}

func TestPicksThatAgree(t *testing.T) {
	wins := windows("x:1 y:1|x:1 y:2|x:2 y:2", "y:1 z:1|y:2 z:1|y:3 z:1")
	for _, c := range []struct {
		pick []int
		join string
	}{
		{[]int{0, 0}, "x:1 y:1 z:1"}, {[]int{1, 1}, "x:1 y:2 z:1"}, {[]int{2, 1}, "x:2 y:2 z:1"},
		{[]int{0, 1}, ""}, {[]int{0, 2}, ""}, {[]int{1, 0}, ""}, {[]int{2, 0}, ""}, {[]int{2, 2}, ""},
		{nil, ""}, {[]int{}, ""}, {[]int{0}, ""}, {[]int{0, 0, 0}, ""}, {[]int{1, 1, -1}, ""}, {[]int{-1, 0}, ""}, {[]int{0, -1}, ""}, {[]int{3, 1}, ""}, {[]int{1, 3}, ""}, {[]int{math.MinInt, 1}, ""}, {[]int{1, math.MaxInt}, ""}, {[]int{1 << 32, 0}, ""},
	} {
		join, ok := impl.ChoiceJoin(wins, c.pick)
		if impl.ChoiceAgrees(wins, c.pick) != (c.join != "") || ok != (c.join != "") || !sameMarks(join, marks(c.join)) {
			t.Errorf("%v: %v %v", c.pick, join, ok)
		}
	}
	if join, ok := impl.ChoiceJoin(windows("x:1 y:7"), []int{0}); !ok || !sameMarks(join, marks("x:1 y:7")) {
		t.Error(join, ok)
	}
}

// Each two must agree, not only neighbours.
func TestEachTwoOfAChoiceAgree(t *testing.T) {
	for _, wins := range [][][]impl.Item{windows("x:1", "y:1", "x:2"), windows("x:1", "y:1", "z:1", "a:1", "b:1", "x:2"), windows("x:1 y:1", "z:1", "x:1", "y:2"), windows("x:1", "x:1", "x:2"), windows("x:2", "x:1", "x:1")} {
		chooseAll(t, wins)
		if impl.ChoiceAgrees(wins, make([]int, len(wins))) || impl.ChoiceCount(wins) != 0 {
			t.Errorf("%v agree", wins)
		}
	}
}

func TestHowManyWindows(t *testing.T) {
	for n := range 10 {
		same, other := slices.Repeat(windows("x:1|x:2|x:3|x:4"), n), make([][]impl.Item, n)
		for i := range other {
			other[i] = window(fmt.Sprintf("s%d:1|s%d:2|s%d:3|s%d:4", i, i, i, i))
		}
		ok := n >= 1 && n <= 6
		last := slices.Repeat([]int{3}, n)
		for _, wins := range [][][]impl.Item{same, other} {
			best, got := impl.ChoiceBest(wins)
			if got != ok || ok && !slices.Equal(best, last) || !ok && len(best) > 0 || impl.ChoiceAgrees(wins, last) != ok {
				t.Errorf("%d windows: %v %v", n, best, got)
			}
			if join, got := impl.ChoiceJoin(wins, last); got != ok || !ok && len(join) > 0 {
				t.Errorf("%d windows: %v %v", n, join, got)
			}
		}
		wantSame, wantOther := 4, int(math.Pow(4, float64(n)))
		if !ok {
			wantSame, wantOther = 0, 0
		}
		if impl.ChoiceCount(same) != wantSame || impl.ChoiceCount(other) != wantOther {
			t.Errorf("%d windows: %d and %d", n, impl.ChoiceCount(same), impl.ChoiceCount(other))
		}
	}
	// one that is no window, or empty, at each place
	for n := 1; n <= 6; n++ {
		for at := range n {
			for _, text := range []string{"", "|", "x:0", "x:1|x:1", "x:1|x:2|x:3|x:4|x:5", "x:1|y:2"} {
				wins := slices.Repeat(windows("x:1"), n)
				wins[at] = window(text)
				best, ok := impl.ChoiceBest(wins)
				join, joined := impl.ChoiceJoin(wins, make([]int, n))
				if ok || joined || len(best)+len(join) > 0 || impl.ChoiceCount(wins) != 0 || impl.ChoiceAgrees(wins, make([]int, n)) {
					t.Errorf("%v: %v %v", wins, best, join)
				}
			}
		}
	}
}

// lots is a window of one item with the sources from one place to another, of those that all such windows share.
func lots(from, to int) []impl.Item {
	return []impl.Item{{Val: from, Stamp: wideMarks(to)[from:]}}
}

func TestJoinsOfChoicesThatAreTooLarge(t *testing.T) {
	for _, c := range []struct {
		wins [][]impl.Item
		ok   bool
	}{
		{[][]impl.Item{lots(0, 12)}, true}, {[][]impl.Item{lots(0, 12), lots(0, 12)}, true}, {[][]impl.Item{lots(0, 12), lots(3, 5)}, true}, {[][]impl.Item{lots(0, 6), lots(6, 12)}, true}, {[][]impl.Item{lots(6, 12), lots(0, 6)}, true},
		{[][]impl.Item{lots(0, 12), lots(12, 13)}, false}, {[][]impl.Item{lots(12, 13), lots(0, 12)}, false}, {[][]impl.Item{lots(0, 12), lots(1, 13)}, false}, {[][]impl.Item{lots(0, 7), lots(6, 13)}, false},
		{[][]impl.Item{lots(0, 2), lots(2, 4), lots(4, 6), lots(6, 8), lots(8, 10), lots(10, 12)}, true}, {[][]impl.Item{lots(0, 2), lots(2, 4), lots(4, 6), lots(6, 8), lots(8, 10), lots(10, 13)}, false}, {[][]impl.Item{lots(0, 7), lots(7, 13), lots(0, 1)}, false},
	} {
		pick := make([]int, len(c.wins))
		if join, ok := impl.ChoiceJoin(c.wins, pick); ok != c.ok || !ok && len(join) > 0 || ok && !sameMarks(join, wideMarks(12)) {
			t.Errorf("%v: %v %v", c.wins, join, ok)
		}
		if best, ok := impl.ChoiceBest(c.wins); !ok || !slices.Equal(best, pick) || !impl.ChoiceAgrees(c.wins, pick) || impl.ChoiceCount(c.wins) != 1 {
			t.Errorf("%v: %v %v", c.wins, best, ok)
		}
		chooseAll(t, c.wins)
	}
}

// course is how sources went on: at each time the versions of all.
type course []versions

func randomCourse(r *rand.Rand, sources []string, times int) course {
	now := versions{}
	for _, src := range sources {
		now[src] = 1 + r.Intn(2)
	}
	var c course
	for range times {
		c = append(c, maps.Clone(now))
		for range 1 + r.Intn(2) {
			now[sources[r.Intn(len(sources))]]++
		}
	}
	return c
}

// at is the stamp of some sources at a time.
func (c course) at(time int, sources []string) []impl.Mark {
	some := versions{}
	for _, src := range sources {
		some[src] = c[time][src]
	}
	return some.marks()
}

var courseSources = []string{"a", "ab", "b", "x"}

// someOf is at least one of some names.
func someOf(r *rand.Rand, names []string, most int) []string {
	var some []string
	for _, at := range r.Perm(len(names))[:1+r.Intn(most)] {
		some = append(some, names[at])
	}
	return some
}

// randomWindows are mostly of one course, so that choices often agree; sometimes one of them is wrong or goes its own way.
func randomWindows(r *rand.Rand, n int) [][]impl.Item {
	c := randomCourse(r, courseSources, 9)
	wins := make([][]impl.Item, n)
	for i := range wins {
		sources := someOf(r, courseSources, 3)
		for time := range c {
			if r.Intn(3) > 0 {
				wins[i], _ = modelPut(wins[i], impl.Item{Val: time, Stamp: c.at(time, sources)})
			}
		}
		wins[i] = wins[i][r.Intn(min(2, len(wins[i])+1)):]
	}
	if n > 0 && r.Intn(6) == 0 {
		wins[r.Intn(n)] = randomWindow(r, 4)
	}
	if n > 0 && r.Intn(20) == 0 {
		w := wins[r.Intn(n)]
		wins[r.Intn(n)] = append(slices.Clone(w), w...)
	}
	return wins
}

func TestChoicesAgainstModel(t *testing.T) {
	r := rand.New(rand.NewSource(220))
	found, back, none := 0, 0, 0
	for range 3000 {
		wins := randomWindows(r, r.Intn(5))
		best := choose(t, wins)
		switch {
		case len(best) == 0:
			none++
		case slices.EqualFunc(best, wins, func(at int, w []impl.Item) bool { return at == len(w)-1 }):
			found++
		default:
			back++
		}
		for range 6 {
			pick := make([]int, len(wins)+r.Intn(12)/11)
			for i := range pick {
				pick[i] = r.Intn(6) - 1
			}
			pickIs(t, wins, pick)
		}
	}
	for range 60 {
		choose(t, randomWindows(r, 5+r.Intn(2)))
	}
	for range 200 {
		chooseAll(t, randomWindows(r, 1+r.Intn(3)))
	}
	if min(found, back, none) < 300 {
		t.Fatal(found, back, none)
	}
}

func TestChoicesTellNoOrderOfMaps(t *testing.T) {
	r := rand.New(rand.NewSource(221))
	for range 100 {
		wins := randomWindows(r, 4)
		first, ok := impl.ChoiceBest(wins)
		for range 20 {
			if again, okAgain := impl.ChoiceBest(wins); okAgain != ok || !slices.Equal(again, first) {
				t.Fatalf("%v: %v and %v", wins, first, again)
			}
		}
	}
}
