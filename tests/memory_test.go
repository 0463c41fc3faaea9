package tests

import (
	"math/rand"
	"slices"
	"testing"

	"loop.example/headrace/impl"
)

// guarded is a list with room behind its end, and what all of that room holds.
func guarded(l []impl.Node) ([]impl.Node, []impl.Node) {
	room := slices.Clone(l)
	for i := range 12 {
		room = append(room, impl.Node{Kind: impl.NodeName, Num: -i, Name: "guard", Kids: i})
	}
	return room[:len(l):len(room)], slices.Clone(room)
}

// guardedBinds are binds with room behind their end, and what all of that room holds.
func guardedBinds(b []impl.Bind) ([]impl.Bind, []impl.Bind) {
	room := slices.Clone(b)
	for i := range 50 {
		room = append(room, impl.Bind{Name: "guard", Val: i})
	}
	return room[:len(b):len(room)], slices.Clone(room)
}

// guardedCode is code with room behind its end, and what all of that room holds.
func guardedCode(c []impl.Ins) ([]impl.Ins, []impl.Ins) {
	room := slices.Clone(c)
	for i := range 50 {
		room = append(room, impl.Ins{Op: impl.InsPush, A: i, Name: "guard"})
	}
	return room[:len(c):len(room)], slices.Clone(room)
}

// spoil writes into all that a list has, its spare room too.
func spoil[T any](l []T, with T) {
	l = l[:cap(l)]
	for i := range l {
		l[i] = with
	}
}

func TestNothingIsWrittenIntoArguments(t *testing.T) {
	r := rand.New(rand.NewSource(8))
	for i := range 3000 {
		l := randomTree(r, 1+r.Intn(30), 1+r.Intn(8))
		if i%3 == 0 {
			l = l[:len(l)-1]
		}
		arg, want := guarded(l)
		impl.TreeOk(arg)
		impl.TreeDeep(arg)
		impl.TreeShow(arg)
		impl.FoldConst(arg)
		spoil(impl.TreeFree(arg), "spoilt")
		spoil(impl.FoldTree(arg), impl.Node{Kind: 99, Name: "spoilt"})
		code, _ := impl.CodeMake(arg)
		spoil(code, impl.Ins{Op: 99, Name: "spoilt"})
		for at := -1; at <= len(arg); at++ {
			impl.TreeEnd(arg, at)
		}
		if !slices.Equal(arg[:cap(arg)], want) {
			t.Fatalf("%v became %v", want, arg[:cap(arg)])
		}
	}
}

func TestNothingIsWrittenIntoBinds(t *testing.T) {
	r := rand.New(rand.NewSource(9))
	for i := range 3000 {
		l, wantList := guarded(busyTree(r, 1+r.Intn(30), 1+r.Intn(8)))
		b, wantBinds := guardedBinds(randomBinds(r))
		if i%5 == 0 {
			b, wantBinds = guardedBinds(bindsFor(r, l))
		}
		impl.BindsOk(b)
		first := meanOf(l, b)
		if meanOf(l, b) != first || meanOf(slices.Clone(l), slices.Clone(b)) != first {
			t.Fatalf("%q with %v: not always %v", impl.TreeShow(l), b, first)
		}
		if !slices.Equal(l[:cap(l)], wantList) || !slices.Equal(b[:cap(b)], wantBinds) {
			t.Fatalf("%q with %v became %v, %v", impl.TreeShow(l), wantBinds, l[:cap(l)], b[:cap(b)])
		}
	}
}

func TestNothingIsWrittenIntoCode(t *testing.T) {
	r := rand.New(rand.NewSource(10))
	for i := range 1500 {
		c, _ := impl.CodeMake(busyTree(r, 1+r.Intn(30), 1+r.Intn(8)))
		if i%3 == 0 {
			c = randomCode(r)
		}
		if i%7 == 0 {
			c[r.Intn(len(c))].Op = 99
		}
		c, wantCode := guardedCode(c)
		b, wantBinds := guardedBinds(randomBinds(r))
		impl.CodeOk(c)
		shown, first := impl.CodeShow(c), runOf(c, b)
		if runOf(c, b) != first || runOf(slices.Clone(c), slices.Clone(b)) != first || impl.CodeShow(slices.Clone(c)) != shown {
			t.Fatalf("%q with %v: not always %v", shown, b, first)
		}
		if !slices.Equal(c[:cap(c)], wantCode) || !slices.Equal(b[:cap(b)], wantBinds) {
			t.Fatalf("%v with %v became %v, %v", wantCode, wantBinds, c[:cap(c)], b[:cap(b)])
		}
		kept := string([]byte(shown))
		spoil(c, impl.Ins{Op: impl.InsLoad, Name: "spoilt"})
		if shown != kept {
			t.Fatalf("%q became %q", kept, shown)
		}
	}
}

func TestCodeAndFoldedTreesAreNewMemory(t *testing.T) {
	r := rand.New(rand.NewSource(11))
	for i := range 1500 {
		l := busyTree(r, 1+r.Intn(30), 1+r.Intn(8))
		if i%2 == 0 {
			l = foldable(r, 1+r.Intn(30), 1+r.Intn(8))
		}
		code, _ := impl.CodeMake(l)
		folded := impl.FoldTree(l)
		wantCode, wantFolded := slices.Clone(code), slices.Clone(folded)
		otherCode, _ := impl.CodeMake(l)
		spoil(otherCode, impl.Ins{Op: 99, Name: "spoilt"})
		spoil(impl.FoldTree(l), impl.Node{Kind: 99, Name: "spoilt"})
		again, _ := impl.CodeMake(l)
		if !slices.Equal(again, wantCode) || !slices.Equal(impl.FoldTree(l), wantFolded) {
			t.Fatalf("%q: answers that share memory with each other", impl.TreeShow(l))
		}
		spoil(l, impl.Node{Kind: 99, Name: "spoilt"})
		if !slices.Equal(code, wantCode) || !slices.Equal(folded, wantFolded) {
			t.Fatal("answers that share memory with an argument")
		}
	}
}

func TestAnswersAreNewMemory(t *testing.T) {
	for _, text := range []string{"x", "let a = b in a + c * d", "rep n as i from z by if i > y then i + 1 else x", "min(a, b) - abs(c)"} {
		words, _ := impl.BodyWords(text)
		wantWords := slices.Clone(words)
		other, _ := impl.BodyWords(text)
		spoil(other, impl.Word{Kind: 9, Text: "spoilt", At: -1})
		if again, _ := impl.BodyWords(text); !slices.Equal(words, wantWords) || !slices.Equal(again, wantWords) {
			t.Fatalf("%q: words that share memory", text)
		}

		tree, _ := impl.TreeRead(text)
		wantTree := slices.Clone(tree)
		second, _ := impl.TreeRead(text)
		spoil(second, impl.Node{Kind: 99})
		if again, _ := impl.TreeRead(text); !slices.Equal(tree, wantTree) || !slices.Equal(again, wantTree) {
			t.Fatalf("%q: trees that share memory", text)
		}

		free := impl.TreeFree(tree)
		wantFree := slices.Clone(free)
		spoil(impl.TreeFree(tree), "spoilt")
		shown := impl.TreeShow(tree)
		wantShown := string([]byte(shown))
		spoil(tree, impl.Node{Kind: 99, Name: "spoilt"})
		if !slices.Equal(free, wantFree) || shown != wantShown {
			t.Fatalf("%q: answers that share memory with an argument", text)
		}
	}
}
