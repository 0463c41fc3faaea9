package tests

import (
	"maps"
	"math/rand"
	"regexp"
	"slices"
	"strconv"
	"strings"

	"loop.example/headrace/impl"
)

// The model of stamps: versions in a map from sources, held against each other source by source as the document says it; texts by a regular expression.

type versions map[string]int

func versionsOf(s []impl.Mark) versions {
	v := versions{}
	for _, m := range s {
		v[m.Src] = m.Ver
	}
	return v
}

func (v versions) marks() []impl.Mark {
	var s []impl.Mark
	for _, src := range slices.Sorted(maps.Keys(v)) {
		s = append(s, impl.Mark{Src: src, Ver: v[src]})
	}
	return s
}

func (v versions) notAbove(other versions) bool {
	for src, n := range v {
		if has, ok := other[src]; !ok || has < n {
			return false
		}
	}
	return true
}

// marks reads marks without the program, also such as are no stamp.
func marks(text string) []impl.Mark {
	var s []impl.Mark
	for _, word := range strings.Fields(text) {
		src, ver, _ := strings.Cut(word, ":")
		n, err := strconv.Atoi(ver)
		if err != nil {
			panic(err)
		}
		s = append(s, impl.Mark{Src: src, Ver: n})
	}
	return s
}

// wideMarks has the first of so many names that ascend, each as long as may be, with great versions.
func wideMarks(n int) []impl.Mark {
	return marksOf(fullStamp(n))
}

func marksOf(vers []impl.Ver) []impl.Mark {
	var s []impl.Mark
	for _, v := range vers {
		s = append(s, impl.Mark(v))
	}
	return s
}

func versOfMarks(s []impl.Mark) []impl.Ver {
	var vers []impl.Ver
	for _, m := range s {
		vers = append(vers, impl.Ver(m))
	}
	return vers
}

// modelStampOk: what a word may tell as its stamp is one; only that it may be empty here.
func modelStampOk(s []impl.Mark) bool {
	return len(s) == 0 || modelSayOk(tell(1, 2, "x", 0, versOfMarks(s)...))
}

func modelJoin(a, b []impl.Mark) ([]impl.Mark, bool) {
	join := versionsOf(a)
	for _, m := range b {
		join[m.Src] = max(join[m.Src], m.Ver)
	}
	if !modelStampOk(a) || !modelStampOk(b) || len(join) >= 13 {
		return nil, false
	}
	return join.marks(), true
}

func modelAgree(a, b []impl.Mark) bool {
	has := versionsOf(b)
	for src, n := range versionsOf(a) {
		if other, ok := has[src]; ok && other != n {
			return false
		}
	}
	return modelStampOk(a) && modelStampOk(b)
}

func modelOrder(a, b []impl.Mark) int {
	if !modelStampOk(a) || !modelStampOk(b) {
		return impl.StampBad
	}
	table := [2][2]int{{impl.StampApart, impl.StampMore}, {impl.StampLess, impl.StampSame}}
	v, w := versionsOf(a), versionsOf(b)
	return table[oneIf(v.notAbove(w))][oneIf(w.notAbove(v))]
}

func modelOnly(s []impl.Mark, names []string) []impl.Mark {
	if !modelStampOk(s) {
		return nil
	}
	only, has := versions{}, versionsOf(s)
	for _, name := range names {
		if n, ok := has[name]; ok {
			only[name] = n
		}
	}
	return only.marks()
}

// modelStampText is cut from the line of a word that tells the stamp.
func modelStampText(s []impl.Mark) string {
	if len(s) == 0 {
		return "-"
	}
	return strings.TrimPrefix(modelLine(tell(1, 2, "x", 0, versOfMarks(s)...)), "1 2 tells x 0 ")
}

var stampForm = regexp.MustCompile(`\A[-a-z0-9]{1,8}:[1-9][0-9]*(?: [-a-z0-9]{1,8}:[1-9][0-9]*){0,11}\z`)

func modelStampRead(text string) ([]impl.Mark, bool) {
	if text == "-" {
		return nil, true
	}
	if !stampForm.MatchString(text) {
		return nil, false
	}
	var s []impl.Mark
	for _, m := range markForm.FindAllStringSubmatch(" "+text, -1) {
		s = append(s, impl.Mark{Src: m[1], Ver: modelNumber(m[2])})
	}
	if !modelStampOk(s) {
		return nil, false
	}
	return s, true
}

// manySources are names that are much alike, so that stamps often share some.
var manySources = []string{"-", "--", "0", "01", "9", "a", "a-", "a0", "aa", "ab", "abc", "abcdefgh", "b", "x", "y", "z", "zzzzzzzz"}

// randomMarks is a stamp of at most so many sources, with versions up to some number.
func randomMarks(r *rand.Rand, sources, most int) []impl.Mark {
	v := versions{}
	for range r.Intn(sources + 1) {
		v[manySources[r.Intn(len(manySources))]] = 1 + r.Intn(most)
	}
	return v.marks()
}

// turnedMarks is mostly a stamp, with something of it that may be wrong.
func turnedMarks(r *rand.Rand) []impl.Mark {
	s := randomMarks(r, 14, 3)
	if len(s) == 0 {
		return s
	}
	at := r.Intn(len(s))
	switch r.Intn(12) {
	case 0:
		s[at].Ver = []int{0, -1, 1 << 40, 1<<40 + 1}[r.Intn(4)]
	case 1:
		s[at].Src = []string{"", "A", "abcdefghi", "a b", "a:", "ä", "a\xff"}[r.Intn(7)]
	case 2:
		s = slices.Insert(s, at, s[at])
	case 3:
		s[at], s[0] = s[0], s[at]
	case 4:
		s = wideMarks(11 + r.Intn(3))
	}
	return s
}

func sameMarks(a, b []impl.Mark) bool { return slices.Equal(a, b) }
