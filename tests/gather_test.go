package tests

import (
	"fmt"
	"math"
	"math/rand"
	"slices"
	"strings"
	"testing"

	"loop.example/headrace/impl"
)

// The model of the gatherer is made of the models of windows and choices.

func modelInputsOk(ins []string) bool {
	for _, name := range ins {
		if !recNameForm.MatchString(name) {
			return false
		}
	}
	different := slices.Compact(slices.Sorted(slices.Values(ins)))
	return len(ins) > 0 && len(ins) < 7 && len(different) == len(ins)
}

func modelGatherOk(g impl.Gather) bool {
	return modelInputsOk(g.Ins) && len(g.Wins) == len(g.Ins) && modelWinsOk(g.Wins) && modelStampOk(g.Shown)
}

func modelGatherPut(g impl.Gather, f impl.Feed) (impl.Gather, impl.Show, int) {
	if !modelGatherOk(g) || f.In < 0 || f.In >= len(g.Ins) {
		return impl.Gather{}, impl.Show{}, impl.GatherBad
	}
	win, code := modelPut(g.Wins[f.In], f.Item)
	switch code {
	case impl.WinBad:
		return impl.Gather{}, impl.Show{}, impl.GatherBad
	case impl.WinOld:
		return g, impl.Show{}, impl.GatherOld
	}
	g.Wins = slices.Clone(g.Wins)
	g.Wins[f.In] = win
	best, found := modelBest(g.Wins)
	if !found {
		return g, impl.Show{}, impl.GatherKept
	}
	all, _ := merged(g.Wins, best)
	if len(all) >= 13 {
		return g, impl.Show{}, impl.GatherFull
	}
	if !versionsOf(g.Shown).notAbove(all) || all.notAbove(versionsOf(g.Shown)) {
		return g, impl.Show{}, impl.GatherKept
	}
	show := impl.Show{Stamp: all.marks()}
	for i, at := range best {
		show.Vals = append(show.Vals, g.Wins[i][at].Val)
	}
	g.Shown = all.marks()
	return g, show, impl.GatherShows
}

func modelGatherPlay(ins []string, feeds []impl.Feed) ([]impl.Show, []int) {
	if !modelInputsOk(ins) || len(feeds) > 60 {
		return nil, nil
	}
	g := impl.Gather{Ins: ins, Wins: make([][]impl.Item, len(ins))}
	var shows []impl.Show
	var codes []int
	for _, f := range feeds {
		then, show, code := modelGatherPut(g, f)
		if code != impl.GatherBad {
			g = then
		}
		if code == impl.GatherShows {
			shows = append(shows, show)
		}
		codes = append(codes, code)
	}
	return shows, codes
}

func sameWins(a, b [][]impl.Item) bool { return slices.EqualFunc(a, b, sameItems) }

func sameGather(a, b impl.Gather) bool {
	return slices.Equal(a.Ins, b.Ins) && sameWins(a.Wins, b.Wins) && sameMarks(a.Shown, b.Shown)
}

func sameShow(a, b impl.Show) bool {
	return slices.Equal(a.Vals, b.Vals) && sameMarks(a.Stamp, b.Stamp)
}

func sameShows(a, b []impl.Show) bool { return slices.EqualFunc(a, b, sameShow) }

func fedTo(in, val int, text string) impl.Feed {
	return impl.Feed{In: in, Item: item(val, text)}
}

// gatherer has inputs a, b .. with these windows.
func gatherer(shown string, texts ...string) impl.Gather {
	return impl.Gather{Ins: strings.Fields("a b c d e f g")[:len(texts)], Wins: windows(texts...), Shown: marks(shown)}
}

// gatherOk holds GatherOk, and that what is not ok takes nothing, against the model and what is told.
func gatherOk(t *testing.T, g impl.Gather, want bool) {
	t.Helper()
	if impl.GatherOk(g) != want || modelGatherOk(g) != want {
		t.Errorf("%+v: %v, the model %v", g, impl.GatherOk(g), modelGatherOk(g))
	}
	for _, f := range []impl.Feed{fedTo(0, 1, "x:1"), fedTo(0, 1, "x:1099511627776"), fedTo(len(g.Ins)-1, 1, "x:2"), fedTo(-1, 1, "x:1"), fedTo(0, 1, "")} {
		gathers(t, g, f)
	}
}

// gathers holds GatherPut against the model.
func gathers(t *testing.T, g impl.Gather, f impl.Feed) (impl.Gather, impl.Show, int) {
	t.Helper()
	then, show, code := impl.GatherPut(g, f)
	wantThen, wantShow, wantCode := modelGatherPut(g, f)
	if code != wantCode || !sameGather(then, wantThen) || !sameShow(show, wantShow) {
		t.Errorf("%v to %+v: %+v %v %d, not %+v %v %d", f, g, then, show, code, wantThen, wantShow, wantCode)
	}
	return then, show, code
}

// played holds GatherPlay against the model.
func played(t *testing.T, ins []string, feeds []impl.Feed) ([]impl.Show, []int) {
	t.Helper()
	shows, codes := impl.GatherPlay(ins, feeds)
	wantShows, wantCodes := modelGatherPlay(ins, feeds)
	if !sameShows(shows, wantShows) || !slices.Equal(codes, wantCodes) {
		t.Errorf("%q and %v: %v %v, not %v %v", ins, feeds, shows, codes, wantShows, wantCodes)
	}
	return shows, codes
}

// newGather holds GatherNew, and that there is a play just then, against the model and what is told.
func newGather(t *testing.T, ins []string, want bool) {
	t.Helper()
	g, ok := impl.GatherNew(ins)
	if ok != want || modelInputsOk(ins) != want {
		t.Errorf("%q: %v, the model %v", ins, ok, modelInputsOk(ins))
	}
	if !ok && !sameGather(g, impl.Gather{}) || ok && !sameGather(g, impl.Gather{Ins: ins, Wins: make([][]impl.Item, len(ins))}) || impl.GatherOk(g) != ok {
		t.Errorf("%q: %+v", ins, g)
	}
	for _, w := range g.Wins {
		if len(w) > 0 {
			t.Errorf("%q: %+v", ins, g)
		}
	}
	gatherOk(t, impl.Gather{Ins: ins, Wins: make([][]impl.Item, len(ins))}, want)
	if _, codes := played(t, ins, []impl.Feed{fedTo(0, 1, "x:1")}); len(codes) != oneIf(want) {
		t.Errorf("%q: %v", ins, codes)
	}
}

func TestInputsOfGatherers(t *testing.T) {
	newGather(t, nil, false)
	newGather(t, []string{}, false)
	for n := range 12 {
		var ins []string
		for i := range n {
			ins = append(ins, fmt.Sprintf("in-%d", n-i))
		}
		newGather(t, ins, n >= 1 && n <= 6)
		for at := range ins {
			for _, name := range []string{"", "A", "abcdefghi", "a b", "ä", "a\n", "a\xff", "a_", "a:1"} {
				bad := slices.Clone(ins)
				bad[at] = name
				newGather(t, bad, false)
			}
			for other := range at {
				bad := slices.Clone(ins)
				bad[at] = bad[other]
				newGather(t, bad, false)
			}
		}
	}
	for c := range 256 {
		may := c < 128 && strings.ContainsRune(recNameBytes, rune(c))
		newGather(t, []string{string([]byte{byte(c)})}, may)
		newGather(t, []string{"a", string([]byte{'a', byte(c)})}, may)
	}
	for _, ins := range [][]string{{"-"}, {"0"}, {"abcdefgh"}, {"z", "a"}, {"a", "ab", "abc"}, {"if", "then", "else"}, {"--------", "-"}} {
		newGather(t, ins, true)
	}
}

func TestGatherersThatMayBe(t *testing.T) {
	for _, g := range []impl.Gather{
		gatherer("", ""), gatherer("", "x:1"), gatherer("x:1", "x:1"), gatherer("q:5", "x:1"), gatherer("x:9", "", ""), gatherer("", "x:1|x:2|x:3|x:4", "", "y:1"), gatherer("x:1 y:1", "x:1", "x:2", "y:1", "z:1", "", "x:1"),
		{Ins: []string{"a"}, Wins: windows(""), Shown: wideMarks(12)}, {Ins: []string{"a", "b"}, Wins: [][]impl.Item{lots(0, 12), lots(12, 13)}},
	} {
		gatherOk(t, g, true)
	}
	for _, g := range []impl.Gather{
		{}, gatherer(""), {Ins: []string{"a"}}, {Wins: windows("x:1")}, {Ins: []string{"a"}, Wins: windows("x:1", "x:1")}, {Ins: []string{"a"}, Wins: windows("", "")}, {Ins: []string{"a", "b"}, Wins: windows("x:1")}, {Ins: []string{"a", "b"}, Wins: windows("")}, {Ins: []string{"a", "b", "c"}, Wins: windows("", "")},
		{Ins: []string{"a", "a"}, Wins: windows("", "")}, {Ins: []string{"a", ""}, Wins: windows("", "")}, {Ins: []string{"A"}, Wins: windows("")}, gatherer("", "", "", "", "", "", "", ""),
		gatherer("", "x:0"), gatherer("", "|"), gatherer("", "x:1|x:1"), gatherer("", "", "x:1|x:1"), gatherer("", "x:2|x:1", ""), gatherer("", "x:1|y:2"), gatherer("", "x:1|x:2|x:3|x:4|x:5"), gatherer("", "x:1", "y:1", "z:1|"),
		gatherer("x:0", ""), gatherer("x:1099511627777", "x:1"), gatherer("y:1 x:1", "x:1"), gatherer("x:1 x:1", "x:1"), gatherer("X:1", "x:1"), {Ins: []string{"a"}, Wins: windows(""), Shown: wideMarks(13)},
	} {
		gatherOk(t, g, false)
	}
	for _, bad := range noStamps {
		g := gatherer("", "x:1", "")
		g.Shown = bad
		gatherOk(t, g, false)
	}
}

func TestFeedsOfEachCode(t *testing.T) {
	two := gatherer("x:2 y:1", "x:1|x:2", "x:2 y:1")
	for _, c := range []struct {
		why  string
		g    impl.Gather
		f    impl.Feed
		code int
		then impl.Gather
		vals []int
	}{
		{"a first item", gatherer("", ""), fedTo(0, 7, "x:1"), impl.GatherShows, impl.Gather{Wins: [][]impl.Item{{item(7, "x:1")}}, Shown: marks("x:1")}, []int{7}},
		{"another window is empty", gatherer("", "", ""), fedTo(1, 7, "x:1"), impl.GatherKept, impl.Gather{Wins: [][]impl.Item{nil, {item(7, "x:1")}}}, nil},
		{"nothing agrees", gatherer("", "x:1", ""), fedTo(1, 7, "x:2"), impl.GatherKept, impl.Gather{Wins: [][]impl.Item{window("x:1"), {item(7, "x:2")}}}, nil},
		{"what agrees is above", gatherer("x:1", "x:1|x:2", "x:1"), fedTo(1, 7, "x:2"), impl.GatherShows, impl.Gather{Wins: [][]impl.Item{window("x:1|x:2"), append(window("x:1"), item(7, "x:2"))}, Shown: marks("x:2")}, []int{101, 7}},
		{"what agrees is not the last", gatherer("x:1", "x:1|x:2|x:3", "x:1"), fedTo(1, 7, "x:2"), impl.GatherShows, impl.Gather{Wins: [][]impl.Item{window("x:1|x:2|x:3"), append(window("x:1"), item(7, "x:2"))}, Shown: marks("x:2")}, []int{101, 7}},
		{"what agrees is as shown", two, fedTo(0, 7, "x:3"), impl.GatherKept, impl.Gather{Wins: [][]impl.Item{append(window("x:1|x:2"), item(7, "x:3")), window("x:2 y:1")}, Shown: marks("x:2 y:1")}, nil},
		{"what agrees is less", gatherer("x:5", "x:1", ""), fedTo(1, 7, "x:1"), impl.GatherKept, impl.Gather{Wins: [][]impl.Item{window("x:1"), {item(7, "x:1")}}, Shown: marks("x:5")}, nil},
		{"what agrees is apart", gatherer("z:1", "x:1", ""), fedTo(1, 7, "x:1"), impl.GatherKept, impl.Gather{Wins: [][]impl.Item{window("x:1"), {item(7, "x:1")}}, Shown: marks("z:1")}, nil},
		{"what agrees goes both ways", gatherer("x:2 y:1", "x:1", ""), fedTo(1, 7, "y:2"), impl.GatherKept, impl.Gather{Wins: [][]impl.Item{window("x:1"), {item(7, "y:2")}}, Shown: marks("x:2 y:1")}, nil},
		{"the first item goes", gatherer("x:4", "x:1|x:2|x:3|x:4"), fedTo(0, 7, "x:5"), impl.GatherShows, impl.Gather{Wins: [][]impl.Item{append(window("x:1|x:2|x:3|x:4")[1:], item(7, "x:5"))}, Shown: marks("x:5")}, []int{7}},
		{"the item that would agree goes", gatherer("", "x:1|x:2|x:3|x:4", "x:1"), fedTo(0, 7, "x:5"), impl.GatherKept, impl.Gather{Wins: [][]impl.Item{append(window("x:1|x:2|x:3|x:4")[1:], item(7, "x:5")), window("x:1")}}, nil},
		{"the same once more", two, fedTo(0, 7, "x:2"), impl.GatherOld, two, nil},
		{"less", two, fedTo(0, 7, "x:1"), impl.GatherOld, two, nil},
		{"other sources", two, fedTo(0, 7, "x:3 y:1"), impl.GatherOld, two, nil},
		{"other sources that agree", two, fedTo(1, 7, "x:2"), impl.GatherOld, two, nil},
		{"an empty stamp", two, fedTo(0, 7, ""), impl.GatherBad, impl.Gather{}, nil},
		{"no stamp", two, fedTo(0, 7, "x:1099511627777"), impl.GatherBad, impl.Gather{}, nil},
		{"no stamp", two, fedTo(1, 7, "y:1 x:3"), impl.GatherBad, impl.Gather{}, nil},
		{"an input below all", two, fedTo(-1, 7, "x:3"), impl.GatherBad, impl.Gather{}, nil},
		{"an input behind all", two, fedTo(2, 7, "x:3"), impl.GatherBad, impl.Gather{}, nil},
		{"an input far below all", two, fedTo(math.MinInt, 7, "x:3"), impl.GatherBad, impl.Gather{}, nil},
		{"an input far behind all", two, fedTo(math.MaxInt, 7, "x:3"), impl.GatherBad, impl.Gather{}, nil},
		{"an input that wraps", two, fedTo(1<<32, 7, "x:3"), impl.GatherBad, impl.Gather{}, nil},
		{"no gatherer", gatherer("", "x:1|x:1"), fedTo(0, 7, "x:3"), impl.GatherBad, impl.Gather{}, nil},
		{"nothing", impl.Gather{}, fedTo(0, 7, "x:3"), impl.GatherBad, impl.Gather{}, nil},
		{"another window is none", gatherer("", "x:1", "x:1|y:1"), fedTo(0, 7, "x:1"), impl.GatherBad, impl.Gather{}, nil},
	} {
		then, show, code := gathers(t, c.g, c.f)
		if c.code != impl.GatherBad {
			c.then.Ins = c.g.Ins
		}
		want := impl.Show{Vals: c.vals}
		if c.code == impl.GatherShows {
			want.Stamp = c.then.Shown
		}
		if code != c.code || !sameGather(then, c.then) || !sameShow(show, want) {
			t.Errorf("%s: %+v %v %d, not %+v %v %d", c.why, then, show, code, c.then, want, c.code)
		}
	}
}

// A join that is too large leaves the item in its window, and shows nothing; also where another window's item comes, and where something was shown.
func TestFeedsWhoseJoinIsTooLarge(t *testing.T) {
	for _, shown := range []string{"", "source00:1", "x:9"} {
		g := impl.Gather{Ins: []string{"a", "b"}, Wins: [][]impl.Item{lots(0, 12), nil}, Shown: marks(shown)}
		then, show, code := gathers(t, g, fedTo(1, 7, "x:1"))
		want := impl.Gather{Ins: g.Ins, Wins: [][]impl.Item{lots(0, 12), {item(7, "x:1")}}, Shown: g.Shown}
		if code != impl.GatherFull || !sameGather(then, want) || !sameShow(show, impl.Show{}) {
			t.Errorf("%+v %v %d", then, show, code)
		}
		then, show, code = gathers(t, then, fedTo(1, 8, "x:2"))
		want.Wins[1] = append(want.Wins[1], item(8, "x:2"))
		if code != impl.GatherFull || !sameGather(then, want) || !sameShow(show, impl.Show{}) {
			t.Errorf("%+v %v %d", then, show, code)
		}
		if then, _, code = gathers(t, then, fedTo(1, 9, "x:2")); code != impl.GatherOld || !sameGather(then, want) {
			t.Errorf("%+v %d", then, code)
		}
		// just twelve
		if _, show, code := gathers(t, g, fedTo(1, 7, "source00:1099511627776")); code != [2]int{impl.GatherShows, impl.GatherKept}[oneIf(shown == "x:9")] || code == impl.GatherShows && !sameMarks(show.Stamp, wideMarks(12)) {
			t.Errorf("%v %d", show, code)
		}
		// what does not agree is not too large
		if _, _, code := gathers(t, g, fedTo(1, 7, "source00:1 x:1")); code != impl.GatherKept {
			t.Error(code)
		}
	}
}

func TestValuesThatAreShown(t *testing.T) {
	for _, val := range edgeNums {
		g := gatherer("", "", "", "")
		g, _, _ = gathers(t, g, fedTo(2, val, "x:1"))
		g, _, _ = gathers(t, g, fedTo(0, -val, "y:1"))
		_, show, code := gathers(t, g, fedTo(1, val+1, "x:1 y:1"))
		if code != impl.GatherShows || !slices.Equal(show.Vals, []int{-val, val + 1, val}) || !sameMarks(show.Stamp, marks("x:1 y:1")) {
			t.Errorf("%d: %v %d", val, show, code)
		}
	}
}

func TestPlays(t *testing.T) {
	ins := []string{"a", "b"}
	feeds := []impl.Feed{
		fedTo(0, 1, "x:1"), fedTo(1, 2, "x:2"), fedTo(0, 3, "x:2"), fedTo(0, 3, "x:2"), fedTo(2, 4, "x:3"), fedTo(-1, 4, "x:3"), fedTo(0, 4, ""), fedTo(0, 5, "x:3"), fedTo(0, 6, "y:3"), fedTo(1, 7, "x:3"), fedTo(1, 8, "x:1"), fedTo(0, 9, "x:0"),
	}
	shows, codes := played(t, ins, feeds)
	wantShows := []impl.Show{{Vals: []int{3, 2}, Stamp: marks("x:2")}, {Vals: []int{5, 7}, Stamp: marks("x:3")}}
	if !slices.Equal(codes, []int{0, 0, 1, 3, 2, 2, 2, 0, 3, 1, 3, 2}) || !sameShows(shows, wantShows) {
		t.Errorf("%v %v", shows, codes)
	}
	for _, none := range [][]impl.Feed{nil, {}} {
		if shows, codes := played(t, ins, none); len(shows)+len(codes) > 0 {
			t.Errorf("%v %v", shows, codes)
		}
	}
	full := []impl.Feed{{In: 0, Item: lots(0, 12)[0]}, fedTo(1, 7, "x:1"), fedTo(1, 8, "x:2"), fedTo(0, 9, "source00:1"), fedTo(1, 8, "x:2")}
	if shows, codes := played(t, ins, full); !slices.Equal(codes, []int{0, 4, 4, 3, 3}) || len(shows) > 0 {
		t.Errorf("%v %v", shows, codes)
	}
}

func TestHowManyFeeds(t *testing.T) {
	for _, n := range []int{0, 1, 59, 60, 61, 62, 200} {
		var feeds, bad []impl.Feed
		for i := range n {
			feeds = append(feeds, fedTo(0, i, fmt.Sprintf("x:%d", i+1)))
			bad = append(bad, fedTo(9, i, "x:1"))
		}
		want := n * oneIf(n <= 60)
		if shows, codes := played(t, []string{"a"}, feeds); len(shows) != want || len(codes) != want {
			t.Errorf("%d feeds: %d are shown, %d codes", n, len(shows), len(codes))
		}
		if shows, codes := played(t, []string{"a"}, bad); len(shows) != 0 || len(codes) != want {
			t.Errorf("%d bad feeds: %d are shown, %d codes", n, len(shows), len(codes))
		}
		for _, ins := range [][]string{nil, {"a", "a"}, {"A"}, {""}, {"a", "b", "c", "d", "e", "f", "g"}} {
			if shows, codes := played(t, ins, feeds); len(shows)+len(codes) > 0 {
				t.Errorf("%q: %v %v", ins, shows, codes)
			}
		}
	}
}

// randomPlay are inputs and feeds that mostly follow one course, late and doubled and by turns; some go their own way or are wrong. Each feed has a value of its own.
func randomPlay(r *rand.Rand, inputs, feeds int) ([]string, []impl.Feed) {
	sources, most := courseSources, 3
	if r.Intn(4) == 0 {
		sources, most = manySources, 9
	}
	c := randomCourse(r, sources, 3+feeds/2)
	ins := strings.Fields("in-f in-e in-d in-c in-b in-a")[:inputs]
	needs := make([][]string, inputs)
	for i := range needs {
		needs[i] = someOf(r, sources, most)
	}
	var play []impl.Feed
	for n := range feeds {
		in := r.Intn(inputs)
		time := min(len(c)-1, max(0, n/2-r.Intn(4)))
		f := impl.Feed{In: in, Item: impl.Item{Stamp: c.at(time, needs[in])}}
		switch r.Intn(25) {
		case 0:
			f.In = r.Intn(inputs+2) - 1
		case 1:
			f.Item.Stamp = turnedMarks(r)
		case 2:
			f.Item.Stamp[r.Intn(len(f.Item.Stamp))].Ver += r.Intn(3) - 1
		case 3:
			if n > 0 {
				f = play[r.Intn(n)]
			}
		}
		f.Item.Val = 1000 + n
		play = append(play, f)
	}
	return ins, play
}

func TestGatherersAgainstModel(t *testing.T) {
	r := rand.New(rand.NewSource(230))
	seen := [5]int{}
	for n := range 400 {
		ins, feeds := randomPlay(r, 1+r.Intn(4), 10+r.Intn(51))
		if n%40 == 0 {
			ins, feeds = randomPlay(r, 5+r.Intn(2), 60)
		}
		_, codes := played(t, ins, feeds)
		for _, code := range codes {
			seen[code]++
		}
	}
	if slices.Min(seen[:]) < 40 {
		t.Fatal(seen)
	}
}

// Gatherers with anything as Shown, and windows that no play leaves.
func TestAnyGatherersAgainstModel(t *testing.T) {
	r := rand.New(rand.NewSource(231))
	seen := [5]int{}
	for range 6000 {
		n := 1 + r.Intn(3)
		g := impl.Gather{Ins: strings.Fields("a b c")[:n], Wins: randomWindows(r, n), Shown: randomMarks(r, 3, 4)}
		if r.Intn(2) == 0 {
			g.Shown = modelOnly(randomCourse(r, courseSources, 6)[r.Intn(6)].marks(), someOf(r, courseSources, 3))
		}
		in := r.Intn(n)
		f := impl.Feed{In: in, Item: randomItem(r, g.Wins[in])}
		switch r.Intn(15) {
		case 0:
			g.Shown = turnedMarks(r)
		case 1:
			g.Ins = g.Ins[:r.Intn(n+1)]
		case 2:
			g.Wins = g.Wins[:r.Intn(n+1)]
		case 3:
			g.Ins = slices.Repeat(g.Ins, 2)[:n]
			g.Ins[r.Intn(n)] = "a"
		case 4:
			f.In = []int{-1, n, n + 1, math.MinInt, math.MaxInt}[r.Intn(5)]
		case 5, 6:
			g.Wins[r.Intn(n)] = append(lots(0, 11+r.Intn(3)), lots(0, 12)[:r.Intn(4)/3]...)
		}
		_, _, code := gathers(t, g, f)
		seen[code]++
	}
	if slices.Min(seen[:]) < 20 {
		t.Fatal(seen)
	}
}
