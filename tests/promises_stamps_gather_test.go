package tests

import (
	"math/rand"
	"slices"
	"testing"

	"loop.example/headrace/impl"
)

// onlooker follows a play from outside: by the codes it knows which items are in the windows, and what was shown.
type onlooker struct {
	wins  [][]impl.Item
	shown []impl.Mark
	shows int
}

// watch tells of each feed of a play, behind it, what the onlooker knows, and what was shown by it, if anything was.
func watch(t *testing.T, ins []string, feeds []impl.Feed, look func(o onlooker, show *impl.Show)) {
	t.Helper()
	shows, codes := impl.GatherPlay(ins, feeds)
	if len(codes) != len(feeds) {
		t.Fatalf("%d feeds, %d codes", len(feeds), len(codes))
	}
	o := onlooker{wins: make([][]impl.Item, len(ins))}
	for i, f := range feeds {
		if code := codes[i]; code != impl.GatherBad && code != impl.GatherOld {
			o.wins[f.In] = lastOf(append(slices.Clone(o.wins[f.In]), f.Item), 4)
		}
		if codes[i] != impl.GatherShows {
			look(o, nil)
			continue
		}
		if len(shows) == o.shows {
			t.Fatalf("%v: less is shown than codes tell", feeds)
		}
		show := shows[o.shows]
		o.shows++
		look(o, &show)
		o.shown = show.Stamp
	}
	if o.shows != len(shows) {
		t.Fatalf("%v: more is shown than codes tell", feeds)
	}
}

// manyPlays tells plays, of which some are as long as may be.
func manyPlays(seed int64, n int, each func(ins []string, feeds []impl.Feed)) {
	r := rand.New(rand.NewSource(seed))
	for i := range n {
		inputs, feeds := 1+r.Intn(4), r.Intn(61)
		if i%10 == 0 {
			inputs, feeds = 1+r.Intn(6), 60
		}
		each(randomPlay(r, inputs, feeds))
	}
}

// madeOf tells whether a window has an item with that value and just the versions that a stamp has of the item's sources.
func madeOf(w []impl.Item, val int, stamp versions) bool {
	return slices.ContainsFunc(w, func(it impl.Item) bool {
		for _, m := range it.Stamp {
			if stamp[m.Src] != m.Ver {
				return false
			}
		}
		return it.Val == val
	})
}

func TestPromise39WhatIsShownIsOfTheWindows(t *testing.T) {
	seen := 0
	manyPlays(39, 500, func(ins []string, feeds []impl.Feed) {
		watch(t, ins, feeds, func(o onlooker, show *impl.Show) {
			if show == nil {
				return
			}
			seen++
			if len(show.Vals) != len(ins) {
				t.Fatalf("%v of %q", show, ins)
			}
			stamp, needed := versionsOf(show.Stamp), versions{}
			for i, val := range show.Vals {
				if !madeOf(o.wins[i], val, stamp) {
					t.Fatalf("%v is not made of %v", show, o.wins[i])
				}
				for _, m := range o.wins[i][0].Stamp {
					needed[m.Src] = m.Ver
				}
			}
			if !impl.StampOk(show.Stamp) || len(needed) != len(show.Stamp) {
				t.Fatalf("%v of sources that went into nothing", show)
			}
		})
	})
	if seen < 2000 {
		t.Fatal(seen)
	}
}

func TestPromise40StampsRiseAndAreNotBehind(t *testing.T) {
	seen, large := 0, 0
	manyPlays(40, 300, func(ins []string, feeds []impl.Feed) {
		if len(ins) > 4 {
			feeds = feeds[:min(len(feeds), 25)]
		}
		watch(t, ins, feeds, func(o onlooker, show *impl.Show) {
			last := o.shown
			if show != nil {
				seen++
				if impl.StampOrder(last, show.Stamp) != impl.StampLess {
					t.Fatalf("%v is shown behind %v", show, last)
				}
				last = show.Stamp
			}
			for _, pick := range agreeing(o.wins) {
				all, _ := merged(o.wins, pick)
				if len(all) > 12 {
					large++
					break
				}
				if order := impl.StampOrder(last, all.marks()); order != impl.StampSame && order != impl.StampMore {
					t.Fatalf("%v was shown last, and %v of %v agrees", last, pick, o.wins)
				}
			}
		})
	})
	if seen < 1000 || large < 100 {
		t.Fatal(seen, large)
	}
}

func TestPromise41TheJoinIsTheLeast(t *testing.T) {
	r := rand.New(rand.NewSource(41))
	fit := 0
	for range 20000 {
		a, b := randomMarks(r, 20, 3), randomMarks(r, 12, 3)
		a = a[:min(len(a), 12)]
		join, ok := impl.StampJoin(a, b)
		other, okOther := impl.StampJoin(b, a)
		if ok != okOther || !sameMarks(join, other) {
			t.Fatalf("%v and %v: %v %v, the other way round %v %v", a, b, join, ok, other, okOther)
		}
		if !ok {
			continue
		}
		fit++
		if lacks(join, a) || lacks(join, b) || !impl.StampOk(join) {
			t.Fatalf("%v and %v: %v is below", a, b, join)
		}
		// whatever is less, by one version or one source, is below one of both
		for at := range join {
			less := slices.Clone(join)
			if less[at].Ver--; less[at].Ver == 0 {
				less = slices.Delete(less, at, at+1)
			}
			if !lacks(less, a) && !lacks(less, b) {
				t.Fatalf("%v and %v: %v, but %v would do", a, b, join, less)
			}
		}
		// and what is not below both is not below it
		c := versionsOf(a)
		for _, m := range slices.Concat(b, randomMarks(r, 2, 5)) {
			c[m.Src] = max(c[m.Src], m.Ver) + r.Intn(2)
		}
		if above := c.marks(); impl.StampOk(above) && lacks(above, join) {
			t.Fatalf("%v and %v: %v is not below %v", a, b, join, above)
		}
	}
	if fit < 8000 || fit > 19900 {
		t.Fatal(fit)
	}
	for _, bad := range noStamps {
		if join, ok := impl.StampJoin(bad, nil); ok || len(join) > 0 {
			t.Errorf("%v: %v", bad, join)
		}
	}
}

// lacks tells whether a is below b, or has less than b in some source.
func lacks(a, b []impl.Mark) bool {
	order := impl.StampOrder(b, a)
	return order != impl.StampSame && order != impl.StampLess
}

func TestPromise42StampsStandToEachOther(t *testing.T) {
	r := rand.New(rand.NewSource(42))
	back := [5]int{impl.StampSame, impl.StampMore, impl.StampLess, impl.StampApart, impl.StampBad}
	below := 0
	for range 40000 {
		a, b, c := randomMarks(r, 2, 2), randomMarks(r, 3, 3), randomMarks(r, 5, 4)
		if r.Intn(2) == 0 {
			more := versionsOf(b)
			for _, m := range a {
				more[m.Src] = m.Ver + r.Intn(2)
			}
			b = more.marks()
		}
		if r.Intn(2) == 0 {
			more := versionsOf(c)
			for _, m := range b {
				more[m.Src] = m.Ver + r.Intn(2)
			}
			c = more.marks()
		}
		for _, p := range [][2][]impl.Mark{{a, b}, {b, c}, {a, c}, {a, a}} {
			if impl.StampOrder(p[1], p[0]) != back[impl.StampOrder(p[0], p[1])] {
				t.Fatalf("%v and %v: %d, from the other side %d", p[0], p[1], impl.StampOrder(p[0], p[1]), impl.StampOrder(p[1], p[0]))
			}
		}
		if impl.StampOrder(a, a) != impl.StampSame || (impl.StampOrder(a, b) == impl.StampSame) != sameMarks(a, b) {
			t.Fatalf("%v and %v", a, b)
		}
		if impl.StampOrder(a, b) == impl.StampLess && impl.StampOrder(b, c) == impl.StampLess {
			below++
			if impl.StampOrder(a, c) != impl.StampLess {
				t.Fatalf("%v is below %v, which is below %v", a, b, c)
			}
		}
	}
	if below < 4000 {
		t.Fatal(below)
	}
	for _, bad := range noStamps {
		if impl.StampOrder(bad, nil) != impl.StampBad || impl.StampOrder(nil, bad) != impl.StampBad {
			t.Errorf("%v", bad)
		}
	}
}

func TestPromise43StampsAgreeByTheirJoin(t *testing.T) {
	r := rand.New(rand.NewSource(43))
	seen := [2]int{}
	for range 20000 {
		a, b := randomMarks(r, 10, 2), randomMarks(r, 4, 2)
		join, ok := impl.StampJoin(a, b)
		if !ok {
			continue
		}
		has := true
		for _, m := range slices.Concat(a, b) {
			has = has && impl.StampGet(join, m.Src) == m.Ver
		}
		if impl.StampAgree(a, b) != has || impl.StampAgree(b, a) != has {
			t.Fatalf("%v and %v: %v, joined %v", a, b, impl.StampAgree(a, b), join)
		}
		seen[oneIf(has)]++
	}
	if slices.Min(seen[:]) < 2000 {
		t.Fatal(seen)
	}
	for _, bad := range noStamps {
		if impl.StampAgree(bad, nil) || impl.StampAgree(nil, bad) || impl.StampAgree(bad, bad) {
			t.Errorf("%v", bad)
		}
	}
}

func TestPromise44StampsAreReadAsWritten(t *testing.T) {
	r := rand.New(rand.NewSource(44))
	stamps := [][]impl.Mark{nil, wideMarks(12), wideMarks(1)}
	for n := range 8000 {
		stamps = append(stamps, marksOf(randomStamp(r, n%13)))
	}
	for _, s := range stamps {
		text := impl.StampText(s)
		if got, ok := impl.StampRead(text); !ok || !sameMarks(got, s) || text == "" {
			t.Fatalf("%v: %q is read as %v, %v", s, text, got, ok)
		}
	}
	for _, bad := range noStamps {
		if text := impl.StampText(bad); text != "" {
			t.Errorf("%v is written %q", bad, text)
		}
	}
}

func TestPromise44TextsThatAreReadAreWrittenSo(t *testing.T) {
	r := rand.New(rand.NewSource(144))
	read := 0
	for range 30000 {
		text := bent(r, modelStampText(marksOf(randomStamp(r, r.Intn(5)))))
		s, ok := impl.StampRead(text)
		if !ok {
			if len(s) > 0 {
				t.Fatalf("%q: %v", text, s)
			}
			continue
		}
		read++
		if again := impl.StampText(s); again != text || !impl.StampOk(s) {
			t.Fatalf("%q is read as %v, whose text is %q", text, s, again)
		}
	}
	if read < 6000 || read > 25000 {
		t.Fatal(read)
	}
}

func TestPromise45AWindowIsTheLastItemsThatWereTaken(t *testing.T) {
	r := rand.New(rand.NewSource(45))
	codes := [3]int{}
	for range 600 {
		var w, taken []impl.Item
		for n := range 30 {
			it := randomItem(r, w)
			it.Val = n
			then, code := impl.WindowPut(w, it)
			codes[code]++
			switch code {
			case impl.WinTaken:
				taken = append(taken, it)
			case impl.WinOld:
			case impl.WinBad:
				if len(then) > 0 {
					t.Fatalf("%v into %v: %v", it, w, then)
				}
				then = w
			}
			if !sameItems(then, lastOf(taken, 4)) || !impl.WindowOk(then) {
				t.Fatalf("%v were taken: %v", taken, then)
			}
			last, ok := impl.WindowLast(then)
			if ok != (len(taken) > 0) || ok && !sameItem(last, taken[len(taken)-1]) {
				t.Fatalf("%v: the last is %v", then, last)
			}
			w = then
		}
	}
	if slices.Min(codes[:]) < 300 {
		t.Fatal(codes)
	}
}

func TestPromise46TheLaterOfTwoChoicesAgrees(t *testing.T) {
	r := rand.New(rand.NewSource(46))
	seen := 0
	for range 1500 {
		wins := randomWindows(r, 1+r.Intn(4))
		var agree [][]int
		for _, pick := range allChoices(wins) {
			if impl.ChoiceAgrees(wins, pick) {
				agree = append(agree, pick)
			}
		}
		best, ok := impl.ChoiceBest(wins)
		if ok != (len(agree) > 0) || len(agree) != impl.ChoiceCount(wins) || ok != impl.ChoiceAgrees(wins, best) {
			t.Fatalf("%v: %v agree, the greatest is %v", wins, agree, best)
		}
		for _, a := range agree {
			if !slices.Equal(later(a, best), best) {
				t.Fatalf("%v: %v is ahead of %v", wins, best, a)
			}
			b := agree[r.Intn(len(agree))]
			seen++
			if !impl.ChoiceAgrees(wins, later(a, b)) {
				t.Fatalf("%v: %v and %v agree, but not the later of them", wins, a, b)
			}
		}
	}
	if seen < 3000 {
		t.Fatal(seen)
	}
}

// putAll puts feeds one by one, and tells what was shown, the codes, and each feed that was taken.
func putAll(t *testing.T, ins []string, feeds []impl.Feed, look func(g impl.Gather, f impl.Feed)) ([]impl.Show, []int) {
	t.Helper()
	g, ok := impl.GatherNew(ins)
	if !ok {
		t.Fatalf("%q", ins)
	}
	var shows []impl.Show
	var codes []int
	for _, f := range feeds {
		then, show, code := impl.GatherPut(g, f)
		codes = append(codes, code)
		if code == impl.GatherShows {
			shows = append(shows, show)
		}
		if code == impl.GatherBad {
			continue
		}
		g = then
		if code != impl.GatherOld {
			look(g, f)
		}
	}
	return shows, codes
}

func TestPromise47AFeedThatWasTakenChangesNothing(t *testing.T) {
	seen := 0
	manyPlays(47, 200, func(ins []string, feeds []impl.Feed) {
		var taken []impl.Feed
		putAll(t, ins, feeds, func(g impl.Gather, f impl.Feed) {
			taken = append(taken, f)
			for _, again := range lastOf(taken, 12) {
				seen++
				then, show, code := impl.GatherPut(g, again)
				if code != impl.GatherOld || !sameGather(then, g) || !sameShow(show, impl.Show{}) {
					t.Fatalf("%v once more to %+v: %+v %v %d", again, g, then, show, code)
				}
			}
		})
	})
	if seen < 10000 {
		t.Fatal(seen)
	}
}

func TestPromise47APlayIsItsFeedsOneByOne(t *testing.T) {
	manyPlays(147, 150, func(ins []string, feeds []impl.Feed) {
		shows, codes := impl.GatherPlay(ins, feeds)
		wantShows, wantCodes := putAll(t, ins, feeds, func(impl.Gather, impl.Feed) {})
		if !sameShows(shows, wantShows) || !slices.Equal(codes, wantCodes) {
			t.Fatalf("%v: %v %v, one by one %v %v", feeds, shows, codes, wantShows, wantCodes)
		}
		for end := range feeds {
			first, firstCodes := impl.GatherPlay(ins, feeds[:end])
			if len(first) > len(shows) || !sameShows(first, shows[:len(first)]) || !slices.Equal(firstCodes, codes[:end]) {
				t.Fatalf("%v up to %d: %v %v", feeds, end, first, firstCodes)
			}
			count := 0
			for _, code := range codes[:end] {
				count += oneIf(code == impl.GatherShows)
			}
			if count != len(first) {
				t.Fatalf("%v up to %d: %d are shown", feeds, end, len(first))
			}
		}
	})
	r := rand.New(rand.NewSource(247))
	_, feeds := randomPlay(r, 2, 60)
	for _, ins := range [][]string{nil, {"a", "a"}, {"A"}, {"a", "b", "c", "d", "e", "f", "g"}} {
		if shows, codes := impl.GatherPlay(ins, feeds); len(shows)+len(codes) > 0 {
			t.Errorf("%q: %v %v", ins, shows, codes)
		}
	}
	if shows, codes := impl.GatherPlay([]string{"a", "b"}, append(feeds, feeds[0])); len(shows)+len(codes) > 0 {
		t.Errorf("sixty-one feeds: %v %v", shows, codes)
	}
}
