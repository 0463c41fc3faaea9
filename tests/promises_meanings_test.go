package tests

import (
	"math/rand"
	"slices"
	"testing"

	"loop.example/headrace/impl"
)

// bindsFor gives each name that a tree asks for a value.
func bindsFor(r *rand.Rand, l []impl.Node) []impl.Bind {
	var b []impl.Bind
	for _, s := range impl.TreeFree(l) {
		b = append(b, impl.Bind{Name: s, Val: edgeNums[r.Intn(len(edgeNums))]})
	}
	return b
}

func shuffled(r *rand.Rand, b []impl.Bind) []impl.Bind {
	out := slices.Clone(b)
	r.Shuffle(len(out), func(i, j int) { out[i], out[j] = out[j], out[i] })
	return out
}

func TestPromise20MeaningsHangOnTheNamesTheyAskFor(t *testing.T) {
	r := rand.New(rand.NewSource(20))
	asked := 0
	manyTrees(20, 4000, func(l []impl.Node) {
		b := bindsFor(r, l)
		want := meanOf(l, b)
		if want.code != impl.MeanDone && want != lacking {
			t.Fatalf("%q with %v: %v", impl.TreeShow(l), b, want)
		}
		means(t, l, b, want)
		means(t, l, shuffled(r, b), want)
		more := b
		for _, s := range append(someNames, "n", "v", "p", "q", "r") {
			if !slices.Contains(impl.TreeFree(l), s) {
				more = append(slices.Clone(more), impl.Bind{Name: s, Val: int(r.Uint64())})
				means(t, l, shuffled(r, more), want)
			}
		}
		full := shuffled(r, append(slices.Clone(b), manyBinds(impl.MeanMaxBinds-len(b))...))
		means(t, l, full, want)
		for i := range b {
			asked++
			means(t, l, slices.Delete(slices.Clone(b), i, i+1), asks)
			at := slices.Index(full, b[i])
			means(t, l, slices.Delete(slices.Clone(full), at, at+1), asks)
		}
	})
	if asked < 3000 {
		t.Fatal(asked)
	}
}

// Values that a tree does ask for are seen in what it means.
func TestPromise20ValuesAreSeen(t *testing.T) {
	for _, v := range edgeNums {
		b := []impl.Bind{{Name: "a", Val: 1}, {Name: "x", Val: v}, {Name: "b", Val: 2}}
		textMeans(t, "x", b, done(v, 1))
		textMeans(t, "let a = x in a", b, done(v, 3))
		textMeans(t, "rep 3 as a from x by a", b, done(v, 9))
		textMeans(t, "if a then x else b", b, done(v, 3))
	}
}

func with(b []impl.Bind, name string, val int) []impl.Bind {
	out := slices.DeleteFunc(slices.Clone(b), func(x impl.Bind) bool { return x.Name == name })
	return append(out, impl.Bind{Name: name, Val: val})
}

func TestPromise21BehindLets(t *testing.T) {
	r := rand.New(rand.NewSource(21))
	seen, lacked := 0, 0
	for range 6000 {
		s := someNames[r.Intn(4)]
		first, second := busyTree(r, 1+r.Intn(30), 1+r.Intn(8)), busyTree(r, 1+r.Intn(30), 1+r.Intn(8))
		l := named(impl.NodeLet, s, first, second)
		b := with(bindsFor(r, l), "other", 3)
		if r.Intn(2) == 0 {
			b = with(b, s, edgeNums[r.Intn(len(edgeNums))])
		}
		val := meanOf(first, b)
		if val.code != impl.MeanDone {
			if meanOf(l, b) != val {
				t.Fatalf("%q with %v: %v, not %v", impl.TreeShow(l), b, meanOf(l, b), val)
			}
			continue
		}
		body := meanOf(second, with(b, s, val.val))
		if body.code != impl.MeanDone || 1+val.steps+body.steps > impl.MeanMaxSteps {
			lacked++
			means(t, l, b, lacking)
			continue
		}
		seen++
		means(t, l, b, done(body.val, 1+val.steps+body.steps))
	}
	if seen < 3000 || lacked < 100 {
		t.Fatal(seen, lacked)
	}
	for _, v := range edgeNums {
		b := []impl.Bind{{Name: "e", Val: v}}
		textMeans(t, "let x = e in x", b, done(v, 3))
		textMeans(t, "let e = e in e", b, done(v, 3))
		textMeans(t, "let x = 1 in let y = e in let x = y in x", b, done(v, 7))
	}
}

func TestPromise21WhereStepsLack(t *testing.T) {
	for more := -3; more <= 4; more++ {
		l := named(impl.NodeLet, "x", filled(10000), kind(impl.NodeAdd, name("x"), filled(10000-3+more)))
		limitMet(t, "let", l, impl.MeanMaxSteps+more)
	}
}

func TestPromise23QuotientsAndRests(t *testing.T) {
	r := rand.New(rand.NewSource(23))
	holds := func(a, b int) {
		t.Helper()
		q, rest := impl.MeanOp(impl.NodeDiv, a, b), impl.MeanOp(impl.NodeMod, a, b)
		if b == 0 {
			if q != 0 || rest != 0 {
				t.Fatalf("%d by 0: %d, %d", a, q, rest)
			}
			return
		}
		if impl.MeanOp(impl.NodeAdd, impl.MeanOp(impl.NodeMul, q, b), rest) != a {
			t.Fatalf("%d by %d: %d, rest %d", a, b, q, rest)
		}
		if rest != 0 && (rest < 0) != (a < 0) || bigOf(rest).CmpAbs(bigOf(b)) >= 0 || bigOf(q).CmpAbs(bigOf(a)) > 0 {
			t.Fatalf("%d by %d: %d, rest %d", a, b, q, rest)
		}
		binds := []impl.Bind{{Name: "a", Val: a}, {Name: "b", Val: b}}
		textMeans(t, "a / b * b + a % b", binds, done(a, 9))
		textMeans(t, "a / b", binds, done(q, 3))
		textMeans(t, "a % b", binds, done(rest, 3))
	}
	for _, a := range edgeNums {
		for _, b := range edgeNums {
			holds(a, b)
		}
	}
	for range 3000 {
		holds(int(r.Uint64()), int(r.Uint64())>>r.Intn(64))
		holds(r.Intn(201)-100, r.Intn(21)-10)
	}
}
