package tests

import (
	"testing"

	"loop.example/headrace/impl"
)

// roundsOf is a rep of so many rounds over a tree, which takes 3 steps, and 1 more than the tree's for each round.
func roundsOf(times int, l []impl.Node) []impl.Node {
	return named(impl.NodeRep, "r", num(times), num(0), l)
}

// filled is a tree that takes just so many steps.
func filled(steps int) []impl.Node {
	if steps <= 8 {
		return negs(steps-1, num(1))
	}
	inner := roundsOf(64, num(0))
	takes := 3 + 64*2
	if steps < 1+3+takes+1+1 {
		inner, takes = num(0), 1
	}
	times := min(64, (steps-1-3-1)/(takes+1))
	return kind(impl.NodeAdd, roundsOf(times, inner), filled(steps-1-3-times*(takes+1)))
}

func stepsOf(t *testing.T, l []impl.Node) int {
	t.Helper()
	got := meanOf(l, stepBinds)
	if got.code != impl.MeanDone {
		t.Fatalf("%q: %v", impl.TreeShow(l), got)
	}
	return got.steps
}

var stepBinds = []impl.Bind{{Name: "n", Val: 7}, {Name: "p", Val: 2}, {Name: "q", Val: 3}, {Name: "r", Val: 4}}

func TestFilledTrees(t *testing.T) {
	for steps := 1; steps <= 20000; steps += 1 + steps/50 {
		l := filled(steps)
		if _, model, code := modelMean(l, nil); model != steps || code != impl.MeanDone {
			t.Fatalf("%d steps, not %d", model, steps)
		}
		if got := stepsOf(t, l); got != steps {
			t.Fatalf("%d steps, not %d", got, steps)
		}
	}
}

func TestStepsOfEachKind(t *testing.T) {
	for k := impl.NodeNum; k <= impl.NodeRep; k++ {
		want := 1 + kidsOf[k]
		switch k {
		case impl.NodeOr, impl.NodeIf:
			want--
		case impl.NodeRep:
			want = 3 + 2*2
		}
		if got := stepsOf(t, sample(k)); got != want {
			t.Errorf("%q: %d steps, not %d", wordOf[k], got, want)
		}
	}
}

// limitMet asks for a tree's answer where it takes just so many steps.
func limitMet(t *testing.T, why string, l []impl.Node, steps int) {
	t.Helper()
	got := meanOf(l, stepBinds)
	if steps > impl.MeanMaxSteps && got != lacking {
		t.Fatalf("%s: %v, of %d steps", why, got, steps)
	}
	if steps <= impl.MeanMaxSteps && (got.steps != steps || got.code != impl.MeanDone) {
		t.Fatalf("%s: %v, of %d steps", why, got, steps)
	}
	val, model, code := modelMean(l, stepBinds)
	means(t, l, stepBinds, meant{val, model, code})
}

// The limit is met at each step of a node of each kind that is reckoned last.
func TestStepsThatLackAtTheEnd(t *testing.T) {
	for k := impl.NodeNum; k <= impl.NodeRep; k++ {
		own := stepsOf(t, sample(k))
		for more := -3; more <= own+2; more++ {
			l := kind(impl.NodeSub, filled(impl.MeanMaxSteps-1-own+more), sample(k))
			limitMet(t, wordOf[k], l, impl.MeanMaxSteps+more)
		}
	}
}

// one is a tree that takes just so many steps (4 or more), and is 1.
func one(steps int) []impl.Node {
	return kind(impl.NodeNot, kind(impl.NodeMul, num(0), filled(steps-3)))
}

// The limit is met behind each kid of each kind.
func TestStepsThatLackWithin(t *testing.T) {
	for k := impl.NodeNeg; k <= impl.NodeRep; k++ {
		for at := range kidsOf[k] {
			kids := [][]impl.Node{num(1), num(1), num(1)}[:kidsOf[k]]
			if k == impl.NodeOr && at == 1 || k == impl.NodeIf && at == 2 {
				kids[0] = num(0)
			}
			plain := stepsOf(t, sample(k, kids...))
			for more := -2; more <= plain+2; more++ {
				kids[at] = one(impl.MeanMaxSteps + more - plain + 1)
				limitMet(t, wordOf[k], sample(k, kids...), impl.MeanMaxSteps+more)
			}
		}
	}
}

func TestStepsThatLackInRounds(t *testing.T) {
	for _, rounds := range []int{1, 2, 63, 64} {
		for _, inner := range []int{1, 2, 5, 100} {
			own := 3 + rounds*(1+inner)
			for more := -2; more <= own+2; more++ {
				l := kind(impl.NodeAdd, filled(impl.MeanMaxSteps-1-own+more), roundsOf(rounds, filled(inner)))
				if more > 6 && more < own-6 && more%97 > 0 {
					continue
				}
				limitMet(t, "rounds", l, impl.MeanMaxSteps+more)
			}
		}
	}
	// A round may have its own step, and no more.
	l := roundsOf(64, filled(311))
	limitMet(t, "just as many", kind(impl.NodeAdd, filled(impl.MeanMaxSteps-1-3-64*312), l), impl.MeanMaxSteps)
	limitMet(t, "one more", kind(impl.NodeAdd, filled(impl.MeanMaxSteps-3-64*312), l), impl.MeanMaxSteps+1)
}
