package tests

import (
	"fmt"
	"math/rand"
	"reflect"
	"runtime"
	"slices"
	"testing"
	"unsafe"

	"loop.example/headrace/impl"
)

// stretch is some memory: from a byte up to another one, without it.
type stretch struct {
	from, to uintptr
	what     string
}

func (s stretch) meets(other stretch) bool { return s.from < other.to && other.from < s.to }

// stretches is all memory that a value leads to: lists with their spare room, and texts.
func stretches(v reflect.Value) []stretch {
	var all []stretch
	switch v.Kind() {
	case reflect.String:
		if s := v.String(); s != "" {
			from := uintptr(unsafe.Pointer(unsafe.StringData(s)))
			all = append(all, stretch{from, from + uintptr(len(s)), "text"})
		}
	case reflect.Struct:
		for i := range v.NumField() {
			all = append(all, stretches(v.Field(i))...)
		}
	case reflect.Slice:
		if v.Cap() > 0 {
			from := v.Pointer()
			all = append(all, stretch{from, from + uintptr(v.Cap())*v.Type().Elem().Size(), "list"})
		}
		for i := range v.Len() {
			all = append(all, stretches(v.Index(i))...)
		}
	}
	return all
}

// contents is all that a value leads to as a text, the spare room of its lists too.
func contents(v reflect.Value) string {
	switch v.Kind() {
	case reflect.Struct:
		text := ""
		for i := range v.NumField() {
			text += contents(v.Field(i)) + ";"
		}
		return "{" + text + "}"
	case reflect.Slice:
		text := fmt.Sprint(v.Len())
		if v.Cap() > 0 {
			v = v.Slice(0, v.Cap())
		}
		for i := range v.Len() {
			text += "," + contents(v.Index(i))
		}
		return "[" + text + "]"
	}
	return fmt.Sprintf("%#v", v.Interface())
}

// roomy has room behind the end of a list, with something in it; the list itself is a new one.
func roomy[T any](l []T, guard T) []T {
	room := append(slices.Clone(l), slices.Repeat([]T{guard}, 8)...)
	return room[:len(l):len(room)]
}

// Roomy values have texts of their own, too: what the runtime holds ready for short texts belongs to nobody.

func roomyText(s string) string {
	text, _ := loaned(s)
	return text
}

func roomyTexts(l []string) []string {
	l = slices.Clone(l)
	for i := range l {
		l[i] = roomyText(l[i])
	}
	return roomy(l, "guard")
}

func roomyStamp(s []impl.Mark) []impl.Mark {
	s = slices.Clone(s)
	for i := range s {
		s[i].Src = roomyText(s[i].Src)
	}
	return roomy(s, mark("guard", -1))
}

func roomyItem(it impl.Item) impl.Item {
	return impl.Item{Val: it.Val, Stamp: roomyStamp(it.Stamp)}
}

func roomyWindow(w []impl.Item) []impl.Item {
	w = slices.Clone(w)
	for i := range w {
		w[i] = roomyItem(w[i])
	}
	return roomy(w, item(-1, "guard:1"))
}

func roomyWindows(wins [][]impl.Item) [][]impl.Item {
	wins = slices.Clone(wins)
	for i := range wins {
		wins[i] = roomyWindow(wins[i])
	}
	return roomy(wins, window("guard:1"))
}

func roomyGather(g impl.Gather) impl.Gather {
	return impl.Gather{Ins: roomyTexts(g.Ins), Wins: roomyWindows(g.Wins), Shown: roomyStamp(g.Shown)}
}

func roomyFeeds(feeds []impl.Feed) []impl.Feed {
	feeds = slices.Clone(feeds)
	for i := range feeds {
		feeds[i].Item = roomyItem(feeds[i].Item)
	}
	return roomy(feeds, fedTo(0, -1, "guard:1"))
}

// many are several values, as a call is given or answers them.
type many []any

func (m many) stretches() []stretch {
	var all []stretch
	for _, v := range m {
		all = append(all, stretches(reflect.ValueOf(v))...)
	}
	return all
}

func (m many) contents() string {
	text := ""
	for _, v := range m {
		text += contents(reflect.ValueOf(v)) + "\n"
	}
	return text
}

// keepsApart tells whether a call leaves its arguments as they are, with all their room, and answers memory that is neither theirs nor that of another list of the answers.
func keepsApart(t *testing.T, call func() many, args ...any) {
	t.Helper()
	before := many(args).contents()
	answers := call()
	if after := many(args).contents(); after != before {
		t.Fatalf("arguments became others:\n%s\n%s", before, after)
	}
	given, told := many(args).stretches(), answers.stretches()
	for i, s := range told {
		for _, other := range given {
			if s.meets(other) {
				t.Fatalf("%+v: a %s that is a %s of an argument", answers, s.what, other.what)
			}
		}
		for _, other := range told[:i] {
			if s.meets(other) && s.what == "list" {
				t.Fatalf("%+v: two lists that share memory", answers)
			}
		}
	}
	runtime.KeepAlive(args)
	runtime.KeepAlive(answers)
}

// That the test itself sees what it looks for.
func TestMemoryThatIsShared(t *testing.T) {
	s := roomyStamp(marks("x:1 y:2"))
	shares := func(a, b many) bool {
		return slices.ContainsFunc(a.stretches(), func(x stretch) bool { return slices.ContainsFunc(b.stretches(), x.meets) })
	}
	if !shares(many{s}, many{s[1:1]}) || !shares(many{s[:0]}, many{s[2:3]}) || !shares(many{impl.Show{Stamp: s}}, many{s}) || !shares(many{s}, many{s[0].Src}) || !shares(many{slices.Clone(s)}, many{s}) || shares(many{roomyStamp(s)}, many{s}) {
		t.Fatal("not seen")
	}
	was := many{s}.contents()
	s[:3][2].Ver = 9
	if (many{s}).contents() == was {
		t.Fatal("spare room")
	}
}

func TestStampsAreNewMemory(t *testing.T) {
	r := rand.New(rand.NewSource(240))
	for range 4000 {
		a, b := roomyStamp(turnedMarks(r)), roomyStamp(turnedMarks(r))
		if r.Intn(4) == 0 {
			b = a
		}
		names := []string{"x", "a", "ab", "q"}
		for _, m := range a {
			names = append(names, m.Src)
		}
		names = roomyTexts(names)
		keepsApart(t, func() many {
			impl.StampOk(a)
			impl.StampGet(a, names[0])
			impl.StampAgree(a, b)
			impl.StampOrder(a, b)
			impl.StampText(a)
			join, _ := impl.StampJoin(a, b)
			return many{join, impl.StampOnly(a, names)}
		}, a, b, names)
		for _, side := range [][2][]impl.Mark{{a, nil}, {nil, a}} {
			keepsApart(t, func() many {
				join, _ := impl.StampJoin(side[0], side[1])
				return many{join}
			}, a)
		}
		text := roomyText(modelStampText(a))
		keepsApart(t, func() many {
			s, _ := impl.StampRead(text)
			return many{s}
		}, text)
	}
}

func TestWindowsAreNewMemory(t *testing.T) {
	r := rand.New(rand.NewSource(241))
	codes := [3]int{}
	for range 3000 {
		plain := randomWindow(r, r.Intn(7))
		w, it := roomyWindow(plain), roomyItem(randomItem(r, plain))
		if r.Intn(10) == 0 {
			w = w[:min(len(w)+1, 5)]
		}
		src := roomyText("x")
		keepsApart(t, func() many {
			impl.WindowOk(w)
			impl.WindowFind(w, src, 2)
			then, code := impl.WindowPut(w, it)
			last, _ := impl.WindowLast(w)
			codes[code]++
			return many{then, last}
		}, w, it, src)
	}
	if slices.Min(codes[:]) < 100 {
		t.Fatal(codes)
	}
}

func TestChoicesAreNewMemory(t *testing.T) {
	r := rand.New(rand.NewSource(242))
	joined := 0
	for range 1500 {
		wins := roomyWindows(randomWindows(r, r.Intn(5)))
		picked, _ := modelBest(wins)
		pick := roomy(picked, -1)
		keepsApart(t, func() many {
			impl.ChoiceAgrees(wins, pick)
			impl.ChoiceCount(wins)
			best, _ := impl.ChoiceBest(wins)
			join, ok := impl.ChoiceJoin(wins, pick)
			joined += oneIf(ok)
			return many{best, join}
		}, wins, pick)
	}
	if joined < 500 {
		t.Fatal(joined)
	}
}

func TestGatherersAreNewMemory(t *testing.T) {
	r := rand.New(rand.NewSource(243))
	seen := [5]int{}
	for n := range 150 {
		ins, feeds := randomPlay(r, 1+r.Intn(4), 20+r.Intn(30))
		if n%15 == 0 {
			ins, feeds = randomPlay(r, 6, 60)
		}
		names, play := roomyTexts(ins), roomyFeeds(feeds)
		var g impl.Gather
		keepsApart(t, func() many {
			g, _ = impl.GatherNew(names)
			return many{g}
		}, names)
		for _, f := range play {
			from := roomyGather(g)
			var then impl.Gather
			var code int
			keepsApart(t, func() many {
				impl.GatherOk(from)
				var show impl.Show
				then, show, code = impl.GatherPut(from, f)
				return many{then, show}
			}, from, f)
			seen[code]++
			if code != impl.GatherBad {
				g = then
			}
		}
		keepsApart(t, func() many {
			shows, codes := impl.GatherPlay(names, play)
			return many{shows, codes}
		}, names, play)
	}
	if slices.Min(seen[:]) < 20 {
		t.Fatal(seen)
	}
}

// What is answered stays as it is whatever becomes of the arguments, and of other answers.
func TestAnswersOfGatherersStay(t *testing.T) {
	r := rand.New(rand.NewSource(244))
	for range 300 {
		ins, feeds := randomPlay(r, 1+r.Intn(3), 12)
		play := roomyFeeds(feeds)
		shows, codes := impl.GatherPlay(ins, play)
		others, otherCodes := impl.GatherPlay(ins, play)
		want := many{shows, codes}.contents()
		for _, show := range others {
			spoil(show.Vals, -1)
			spoil(show.Stamp, mark("spoilt", -1))
		}
		spoil(others, impl.Show{})
		spoil(otherCodes, -1)
		for _, f := range play {
			spoil(f.Item.Stamp, mark("spoilt", -1))
		}
		spoil(play, impl.Feed{})
		if (many{shows, codes}).contents() != want {
			t.Fatalf("%v %v became others", shows, codes)
		}
	}
}
