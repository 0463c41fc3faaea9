package tests

import (
	"fmt"
	"math/rand"
	"slices"
	"strings"
	"testing"

	"loop.example/headrace/impl"
)

func runOf(c []impl.Ins, b []impl.Bind) meant {
	val, steps, code := impl.CodeRun(c, b)
	return meant{val, steps, code}
}

func runs(t *testing.T, c []impl.Ins, b []impl.Bind, want meant) {
	t.Helper()
	if got := runOf(c, b); got != want {
		text := impl.CodeShow(c)
		t.Fatalf("%.300q with %v: %v, not %v", text, b, got, want)
	}
}

func textRuns(t *testing.T, text string, want meant) {
	t.Helper()
	runs(t, codeOf(text), someBinds, want)
	if got := modelRun(codeOf(text), someBinds); got != want {
		t.Fatalf("%q: the model has %v, not %v", text, got, want)
	}
}

func TestEachInstruction(t *testing.T) {
	textRuns(t, "push 5; tick", done(5, 1))
	textRuns(t, "tick; tick; push 5; tick", done(5, 3))
	for _, n := range edgeNums {
		textRuns(t, fmt.Sprintf("push %d", n), done(n, 0))
		textRuns(t, fmt.Sprintf("push %d; put 3; push 1; put 4; get 3", n), done(n, 0))
		textRuns(t, fmt.Sprintf("push %d; bool", n), done(oneIf(n != 0), 0))
		textRuns(t, fmt.Sprintf("push 9; push %d; zero e; neg; e:", n), done([]int{-9, 9}[oneIf(n == 0)], 0))
	}
	textRuns(t, "load x", done(5, 0))
	textRuns(t, "load lo", done(least, 0))
	textRuns(t, "load y; load x; put 0", done(-3, 0))
	textRuns(t, "push 1; jump e; neg; e:", done(1, 0))
	textRuns(t, "push 1; jump e; e:; neg", done(-1, 0))
}

func TestSignsOfTheMachine(t *testing.T) {
	for word, ins := range signOps {
		for _, a := range edgeNums {
			for _, b := range edgeNums {
				want := done(impl.MeanOp(ins.A, a, b), 0)
				c := []impl.Ins{{Op: impl.InsPush, A: a}, {Op: impl.InsPush, A: b}, ins}
				if ins.Op == impl.InsOne {
					c = []impl.Ins{{Op: impl.InsPush, A: a}, ins}
				}
				if got := runOf(c, nil); got != want {
					t.Fatalf("%s of %d and %d: %v, not %v", word, a, b, got, want)
				}
			}
		}
	}
	textRuns(t, "push 7; push 2; sub", done(5, 0))
	textRuns(t, "push 7; push 2; div", done(3, 0))
	textRuns(t, "push 7; push 0; mod", done(0, 0))
	textRuns(t, "push 1; push 2; lt", done(1, 0))
}

func TestTimes(t *testing.T) {
	for _, c := range []struct{ n, want int }{{least, 0}, {-64, 0}, {-1, 0}, {0, 0}, {1, 1}, {2, 2}, {63, 63}, {64, 64}, {65, 64}, {128, 64}, {1 << 32, 64}, {most, 64}} {
		textRuns(t, fmt.Sprintf("push %d; times", c.n), done(c.want, 0))
	}
}

func TestSlots(t *testing.T) {
	for slot := range 80 {
		textRuns(t, fmt.Sprintf("get %d", slot), done(0, 0))
		textRuns(t, fmt.Sprintf("push 8; put %d; push 3; put %d; get %d", slot, (slot+1)%80, slot), done(8, 0))
		textRuns(t, fmt.Sprintf("push 8; put %d; get %d", slot, (slot+79)%80), done(0, 0))
		textRuns(t, fmt.Sprintf("push 8; put %d; push -2; put %d; get %d; get %d; add", slot, slot, slot, slot), done(-4, 0))
	}
	// Each call begins with slots that are 0.
	textRuns(t, "push 8; put 5; get 5", done(8, 0))
	textRuns(t, "get 5", done(0, 0))
}

func TestCodeThatIsNotOk(t *testing.T) {
	bad := [][]impl.Ins{nil, {}, {{}}, {{Op: 12}}, {{Op: impl.InsPush, Name: "x"}}, {{Op: impl.InsGet, A: 80}}, {{Op: impl.InsJump, A: 2}}, {{Op: impl.InsTwo, A: impl.NodeOr}}, {{Op: impl.InsLoad, Name: "or"}}, slices.Repeat(codeOf("tick"), 4001)}
	for _, c := range bad {
		runs(t, c, someBinds, wrong)
		runs(t, c, nil, wrong)
		runs(t, c, bound("x", "x"), wrong)
		// What is not ok comes ahead of all that would come of it.
		runs(t, slices.Concat(c, []impl.Ins{{Op: impl.InsLoad, Name: "q"}, {Op: 99}}), someBinds, wrong)
		runs(t, slices.Concat([]impl.Ins{{Op: impl.InsBool}, {Op: impl.InsJump}}, c, []impl.Ins{{Op: 99}}), nil, wrong)
	}
	var lists [][]impl.Bind
	for _, s := range noNames {
		lists = append(lists, bound(s), bound("x", s))
	}
	lists = append(lists, manyBinds(41), bound("x", "x"))
	for _, b := range lists {
		for _, text := range []string{"push 1", "load x", "load q", "bool", "jump 0", "tick; jump 0"} {
			runs(t, codeOf(text), b, wrong)
		}
		runs(t, nil, b, wrong)
	}
	runs(t, codeOf("load n0; load n39; add"), manyBinds(40), done(39*39-6, 0))
}

func TestLoadsWithoutBinds(t *testing.T) {
	for _, text := range []string{"load q", "push 1; jump e; load q; e:", "push 1; load q; put 0", "bool; load q", "jump 0; load q", "tick; jump 0; load q", "load x; load y; load q", "push 1; push 1; load q", "load q; load q", "push 0; zero 3; load q; push 1"} {
		runs(t, codeOf(text), someBinds, asks)
		runs(t, codeOf(text), nil, asks)
		runs(t, codeOf(text), bound("qq", "p", "q1", "x"), asks)
		if got := runOf(codeOf(text), append(slices.Clone(someBinds), impl.Bind{Name: "q", Val: 2})); got.code == impl.MeanFree || got.code == impl.MeanBad {
			t.Errorf("%q: %v", text, got)
		}
	}
	runs(t, codeOf("push 1; jump e; load q; e:"), bound("q"), done(1, 0))
	runs(t, codeOf("load x; load y; add"), []impl.Bind{{Name: "x", Val: 1}}, asks)
	runs(t, codeOf("load x; load y; add"), []impl.Bind{{Name: "y", Val: 1}}, asks)
}

func TestTakingOffWhatIsNotThere(t *testing.T) {
	ones := []string{"put 0", "neg", "not", "abs", "zero 0", "bool", "times"}
	for _, line := range ones {
		textRuns(t, line, stuck)
		textRuns(t, "tick; "+line+"; push 1", stuck)
		textRuns(t, "push 1; put 0; "+line+"; push 1", stuck)
	}
	for word, ins := range signOps {
		if ins.Op == impl.InsTwo {
			textRuns(t, word, stuck)
			textRuns(t, "push 1; "+word, stuck)
			textRuns(t, "tick; push 1; "+word+"; push 1", stuck)
			textRuns(t, "push 1; put 0; "+word+"; push 1", stuck)
		}
	}
	// Where one is stuck nothing behind it is come to.
	textRuns(t, "bool; tick; jump 1", stuck)
	textRuns(t, "push 7; add; push 3; u:; tick; jump u", stuck)
}

func TestNumbersAtTheEnd(t *testing.T) {
	textRuns(t, "tick", stuck)
	textRuns(t, "jump e; e:", stuck)
	textRuns(t, "jump e; push 1; e:", stuck)
	textRuns(t, "push 1; put 0", stuck)
	textRuns(t, "push 1; push 2", stuck)
	textRuns(t, "tick; push 0; push 0", stuck)
	textRuns(t, "push 1; push 2; push 3; add", stuck)
	textRuns(t, "push 0; zero e; e:", stuck)
	textRuns(t, "push 3; push 0; zero e; push 1; e:", done(3, 0))
	textRuns(t, strings.Repeat("push 1;", 500), stuck)
}

func TestJumps(t *testing.T) {
	textRuns(t, "jump a; b:; push 2; jump c; a:; push 1; jump b; c:; sub", done(-1, 0))
	textRuns(t, "push 3; put 0; u:; get 0; zero e; tick; get 0; push 1; sub; put 0; jump u; e:; get 0", done(0, 3))
	textRuns(t, "jump e; u:; push 4; jump z; e:; tick; jump u; z:", done(4, 1))
	textRuns(t, "push 1; jump e; push 2; push 3; e:", done(1, 0))
	// What one jumps over leaves more on the stack each time round.
	textRuns(t, "u:; push 1; get 0; push 1; add; put 0; get 0; push 5; lt; zero e; jump u; e:; add; add; add; add", done(5, 0))
}

func TestRoomOfTheStack(t *testing.T) {
	for _, line := range []string{"push 1", "load x", "get 3"} {
		for n := 498; n <= 502; n++ {
			full := strings.Repeat("push 2;", n-1)
			empty := strings.Repeat("put 0;", n-1)
			want := stuck
			if n <= 500 {
				want = done(2, 0)
			}
			textRuns(t, full+line+";"+empty, want)
			textRuns(t, "tick;"+full+line+";"+empty, meant{want.val, oneIf(n <= 500), want.code})
		}
	}
	full := strings.Repeat("push 2;", 500)
	empty := strings.Repeat("put 0;", 499)
	for _, c := range []struct {
		line string
		want meant
	}{{"neg", done(2, 0)}, {"bool", done(2, 0)}, {"times", done(2, 0)}, {"tick", done(2, 1)}, {"jump e; e:", done(2, 0)}} {
		textRuns(t, full+c.line+";"+empty, c.want)
	}
	textRuns(t, full+"add;"+strings.Repeat("put 0;", 498), done(2, 0))
	textRuns(t, full+strings.Repeat("add;", 499), done(1000, 0))
	textRuns(t, full+"zero e; e:;"+strings.Repeat("put 0;", 498), done(2, 0))
	textRuns(t, full+"put 0; get 0;"+empty, done(2, 0))
	textRuns(t, full+"put 0; get 0; get 0;"+empty, stuck)
	textRuns(t, "u:; push 1; jump u", stuck)
	textRuns(t, "u:; tick; push 1; jump u", stuck)
	textRuns(t, full+"u:; tick; jump u", lacking)
	textRuns(t, full+"push 1; u:; tick; jump u", stuck)
}

// busy is code that does so many instructions, so many of them ticks, and leaves the stack as it was.
func busy(count, ticks int) string {
	text := ""
	if ticks > 0 {
		text = fmt.Sprintf("push %d; put 0; u:; get 0; zero a; tick; get 0; push 1; sub; put 0; jump u; a:;", ticks)
		count -= 4 + 8*ticks
	}
	rounds := (count - 4) / 7
	text += fmt.Sprintf("push %d; put 0; v:; get 0; zero b; get 0; push 1; sub; put 0; jump v; b:;", rounds)
	for i := range count - 4 - 7*rounds {
		text += fmt.Sprintf("jump p%d; p%d:;", i, i)
	}
	return text
}

func TestHowManyInstructionsAreDone(t *testing.T) {
	for more := -9; more <= 9; more++ {
		want := stuck
		if more <= 0 {
			want = done(7, 0)
		}
		textRuns(t, busy(impl.CodeMaxRun-1+more, 0)+"push 7", want)
		textRuns(t, "push 7;"+busy(impl.CodeMaxRun-1+more, 0), want)
		if more <= 0 {
			want.steps = 20000
		}
		textRuns(t, busy(impl.CodeMaxRun-1+more, 20000)+"push 7", want)
	}
	textRuns(t, "jump 0", stuck)
	textRuns(t, "push 1; jump 1", stuck)
	textRuns(t, "push 1; u:; put 0; get 0; jump u", stuck)
}

// The one instruction too many is not looked at, even where it is a tick and no step is left.
func TestLastInstructions(t *testing.T) {
	for _, c := range []struct {
		count, ticks int
		then         string
		want         meant
	}{
		{399998, 20000, "push 7; tick", lacking}, {399999, 20000, "push 7; tick", stuck},
		{399997, 20000, "push 7; tick", lacking}, {400000, 20000, "push 7; tick", stuck},
		{399999, 20000, "tick; push 7", lacking}, {400000, 20000, "tick; push 7", stuck}, {400001, 20000, "tick; push 7", stuck},
		{399998, 19999, "push 7; tick", done(7, 20000)}, {399999, 19999, "push 7; tick", stuck}, {399999, 19999, "tick; push 7", stuck},
		{399997, 19999, "push 7; tick; tick", lacking}, {399998, 19999, "push 7; tick; tick", stuck},
		{399999, 5, "bool", stuck}, {400000, 5, "bool", stuck}, {399999, 5, "tick", stuck}, {399998, 5, "push 1; push 2", stuck},
	} {
		textRuns(t, busy(c.count, c.ticks)+c.then, c.want)
	}
}

func TestHowManySteps(t *testing.T) {
	for _, ticks := range []int{1, 2, 19998, 19999, 20000, 20001, 20002, 30000} {
		want := lacking
		if ticks <= 20000 {
			want = done(7, ticks)
		}
		textRuns(t, busy(4+8*ticks+4, ticks)+"push 7", want)
		textRuns(t, "push 7;"+busy(4+8*ticks+4, ticks), want)
	}
	textRuns(t, "tick; jump 0", lacking)
	textRuns(t, "push 3; tick; jump 1", lacking)
	textRuns(t, strings.Repeat("tick;", 3999)+"push 1", done(1, 3999))
	textRuns(t, "u:; "+strings.Repeat("tick;", 3999)+"jump u", lacking)
	// A tick behind the last step comes ahead of what would be stuck behind it.
	textRuns(t, busy(4+8*20000+4, 20000)+"tick; bool", lacking)
	textRuns(t, busy(4+8*20000+4, 20000)+"bool; tick", stuck)
}

func randomCode(r *rand.Rand) []impl.Ins {
	c := make([]impl.Ins, 1+r.Intn(14))
	signs := []string{"neg", "not", "abs", "mul", "div", "mod", "add", "sub", "eq", "ne", "lt", "le", "gt", "ge", "min", "max"}
	for i := range c {
		switch r.Intn(14) {
		case 0, 1, 2, 3:
			c[i] = impl.Ins{Op: impl.InsPush, A: edgeNums[r.Intn(len(edgeNums))]}
		case 4:
			c[i] = impl.Ins{Op: impl.InsLoad, Name: someNames[r.Intn(4)]}
		case 5:
			c[i] = impl.Ins{Op: impl.InsGet, A: r.Intn(3)}
		case 6:
			c[i] = impl.Ins{Op: impl.InsPut, A: r.Intn(3)}
		case 7, 8:
			c[i] = signOps[signs[r.Intn(len(signs))]]
		case 9:
			c[i] = impl.Ins{Op: impl.InsZero, A: r.Intn(len(c) + 1)}
		case 10:
			c[i] = impl.Ins{Op: impl.InsJump, A: i + r.Intn(len(c)+1-i)}
			if r.Intn(3) == 0 {
				c[i].A = r.Intn(len(c) + 1)
			}
		case 11:
			c[i] = impl.Ins{Op: impl.InsBool}
		case 12:
			c[i] = impl.Ins{Op: impl.InsTimes}
		case 13:
			c[i] = impl.Ins{Op: impl.InsTick}
		}
	}
	return c
}

func TestRunsOfRandomCode(t *testing.T) {
	r := rand.New(rand.NewSource(44))
	var codes [5]int
	for range 16000 {
		c, b := randomCode(r), randomBinds(r)
		switch r.Intn(40) {
		case 0:
			c[r.Intn(len(c))].A += 17 - r.Intn(30)
		case 1:
			b = append(b, impl.Bind{Name: []string{"x", "q", "Q"}[r.Intn(3)]})
		}
		want := modelRun(c, b)
		codes[want.code]++
		runs(t, c, b, want)
	}
	if codes[impl.MeanDone] < 1000 || codes[impl.MeanBad] < 100 || codes[impl.MeanFree] < 100 || codes[impl.MeanSpent] < 10 || codes[impl.MeanStuck] < 1000 {
		t.Fatal(codes)
	}
}
