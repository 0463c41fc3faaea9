package tests

import (
	"math/rand"
	"slices"
	"strings"
	"testing"

	"loop.example/headrace/impl"
)

// manyTrees hands out trees of all sizes, up to the limits.
func manyTrees(seed int64, n int, each func(l []impl.Node)) {
	r := rand.New(rand.NewSource(seed))
	for i := range n {
		size, deep := 1+r.Intn(12), 1+r.Intn(6)
		switch {
		case i%50 == 0:
			size, deep = 400, 40
		case i%5 == 0:
			size, deep = 1+r.Intn(120), 1+r.Intn(40)
		}
		each(randomTree(r, size, deep))
	}
	for k := impl.NodeNum; k <= impl.NodeRep; k++ {
		each(sample(k))
	}
	each(negs(39, num(greatest)))
	each(wide(399))
	each(negs(1, wide(399)))
}

// calls is a tree of so many leaves as shallow as can be, and its text.
func calls(leaves int) ([]impl.Node, string) {
	if leaves == 1 {
		return name("abcdefgh"), "abcdefgh"
	}
	first, a := calls(leaves / 2)
	second, b := calls(leaves - leaves/2)
	return kind(impl.NodeMin, first, second), "min(" + a + ", " + b + ")"
}

// textOfSize is a tree whose text has just so many bytes (a few more than the calls have).
func textOfSize(size int) ([]impl.Node, string) {
	l, text := calls(100)
	more := size - len(text)
	return negs(more, l), strings.Repeat("-", more) + text
}

func TestPromise16TreesAreReadFromTheirTexts(t *testing.T) {
	short := 0
	manyTrees(16, 6000, func(l []impl.Node) {
		text := impl.TreeShow(l)
		if len(text) > impl.BodyMaxText {
			wrongTree(t, text, impl.BodyLong, 0)
			return
		}
		short++
		readsAs(t, text, l)
	})
	if short < 5000 {
		t.Fatal(short)
	}
	for _, size := range []int{1498, 1499, 1500, 1501, 1502} {
		l, text := textOfSize(size)
		if len(text) != size || impl.TreeShow(l) != text {
			t.Fatalf("%d bytes of %d: %q", len(text), size, impl.TreeShow(l))
		}
		if size <= 1500 {
			readsAs(t, text, l)
		} else {
			wrongTree(t, text, impl.BodyLong, 0)
		}
	}
}

func TestPromise17ReadTextsHaveTreesThatAreRead(t *testing.T) {
	r := rand.New(rand.NewSource(17))
	read := 0
	manyTrees(17, 3000, func(l []impl.Node) {
		if len(l) > 60 {
			return
		}
		texts := fullWords(l)
		for _, p := range pairs(texts) {
			if r.Intn(2) == 0 {
				texts[p.open], texts[p.shut] = "", ""
			}
		}
		text := strings.Join(texts, strings.Repeat(" ", 1+r.Intn(2)))
		got, f := impl.TreeRead(text)
		if f.Code != 0 {
			return
		}
		read++
		if !impl.TreeOk(got) {
			t.Fatalf("%q is read as no tree", text)
		}
		if shown := impl.TreeShow(got); len(shown) <= impl.BodyMaxText {
			readsAs(t, shown, got)
		}
	})
	if read < 1000 {
		t.Fatal(read)
	}
	// The text of a tree may be longer than the one that it was read from.
	tight := strings.Repeat("min(abcdefgh+abcdefgh-1,", 15) + "1" + strings.Repeat(")", 15)
	got, f := impl.TreeRead(tight)
	if f.Code != 0 || len(impl.TreeShow(got)) <= len(tight) {
		t.Fatal(f)
	}
	readsAs(t, impl.TreeShow(got), got)
}

func TestPromise18NoBracketsCanBeLeftOut(t *testing.T) {
	seen := 0
	manyTrees(18, 4000, func(l []impl.Node) {
		text := impl.TreeShow(l)
		if len(text) > impl.BodyMaxText {
			return
		}
		words, _ := impl.BodyWords(text)
		var texts []string
		for _, w := range words {
			texts = append(texts, w.Text)
		}
		for _, p := range pairs(texts) {
			seen++
			bare := text[:words[p.open].At] + " " + text[words[p.open].At+1:words[p.shut].At] + " " + text[words[p.shut].At+1:]
			if got, f := impl.TreeRead(bare); f.Code == 0 && slices.Equal(got, l) {
				t.Fatalf("%q is read like %q", bare, text)
			}
		}
	})
	if seen < 1000 {
		t.Fatal(seen)
	}
}

func TestPromise22WordsPutTogetherWithBlanks(t *testing.T) {
	r := rand.New(rand.NewSource(22))
	texts := []string{"", " ", "a", "0", "a<=b", "a< =b", "12ab", "-1--2", "let a1=0in a1", "min(1,2)", "0if", "!=<=>=()", "(a=b)=c", "not(a)", "rep 3as s from 0by s+1", "a=b=c", "1 2", "if"}
	manyTrees(22, 2000, func(l []impl.Node) {
		if text := impl.TreeShow(l); len(text) <= impl.BodyMaxText {
			texts = append(texts, text)
		}
	})
	for _, text := range texts {
		words, f := impl.BodyWords(text)
		if f.Code != 0 {
			t.Fatalf("%q: %v", text, f)
		}
		tree, fault := impl.TreeRead(text)
		together, places := strings.Repeat(" ", r.Intn(3)), []int{}
		for _, w := range words {
			places = append(places, len(together))
			together += w.Text + strings.Repeat(" ", 1+r.Intn(2))
		}
		if len(together) > impl.BodyMaxText {
			continue
		}
		again, f := impl.BodyWords(together)
		if f.Code != 0 || len(again) != len(words) {
			t.Fatalf("%q: %v", together, f)
		}
		for i := range words {
			if again[i] != (impl.Word{Kind: words[i].Kind, Text: words[i].Text, At: places[i]}) {
				t.Fatalf("%q: %v", together, again[i])
			}
		}
		got, f := impl.TreeRead(together)
		if f.Code != fault.Code || !slices.Equal(got, tree) {
			t.Fatalf("%q: %v, of %q: %v", together, f, text, fault)
		}
	}
}
