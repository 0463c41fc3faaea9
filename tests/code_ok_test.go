package tests

import (
	"math/rand"
	"slices"
	"strconv"
	"strings"
	"testing"

	"loop.example/headrace/impl"
)

// isCode asks for one instruction among others, at each place of three.
func isCode(t *testing.T, ins impl.Ins, want bool) {
	t.Helper()
	for at := range 3 {
		c := codeOf("tick; push -9; load q")
		c[at] = ins
		if impl.CodeOk(c) != want || modelOk(c) != want || (impl.CodeShow(c) != "") != want {
			t.Fatalf("%+v at %d: %v, not %v; %q", ins, at, impl.CodeOk(c), want, impl.CodeShow(c))
		}
		if _, _, code := impl.CodeRun(c, bound("q", "x")); (code == impl.MeanBad) == want {
			t.Fatalf("%+v at %d runs to the code %d", ins, at, code)
		}
	}
}

func TestOpsAreCounted(t *testing.T) {
	for i, op := range []int{impl.InsTick, impl.InsPush, impl.InsLoad, impl.InsGet, impl.InsPut, impl.InsOne, impl.InsTwo, impl.InsJump, impl.InsZero, impl.InsBool, impl.InsTimes} {
		if op != i+1 {
			t.Errorf("%d, not %d", op, i+1)
		}
	}
	if impl.CodeMaxIns != 4000 || impl.CodeMaxSlots != 80 || impl.CodeMaxStack != 500 || impl.CodeMaxRun != 400000 {
		t.Error("limits")
	}
}

func TestHowManyInstructions(t *testing.T) {
	for _, n := range []int{0, 1, 2, 3999, 4000, 4001, 4002, 100000} {
		c := slices.Repeat(codeOf("tick"), n)
		want := n >= 1 && n <= 4000
		if impl.CodeOk(c) != want || len(impl.CodeShow(c)) != oneIf(want)*n*5 {
			t.Errorf("%d instructions", n)
		}
		if _, _, code := impl.CodeRun(c, nil); (code == impl.MeanBad) == want {
			t.Errorf("%d instructions: %d", n, code)
		}
	}
	if impl.CodeOk(nil) || impl.CodeOk([]impl.Ins{}) || impl.CodeShow(nil) != "" {
		t.Error("none")
	}
}

func TestInstructionsWithoutFields(t *testing.T) {
	for _, op := range []int{impl.InsTick, impl.InsBool, impl.InsTimes} {
		isCode(t, impl.Ins{Op: op}, true)
		for _, a := range []int{1, -1, 3, 79, least, most} {
			isCode(t, impl.Ins{Op: op, A: a}, false)
		}
		isCode(t, impl.Ins{Op: op, Name: "x"}, false)
		isCode(t, impl.Ins{Op: op, Name: "or"}, false)
		isCode(t, impl.Ins{Op: op, Name: " "}, false)
	}
}

func TestInstructionsWithNumbers(t *testing.T) {
	for _, a := range edgeNums {
		isCode(t, impl.Ins{Op: impl.InsPush, A: a}, true)
		isCode(t, impl.Ins{Op: impl.InsPush, A: a, Name: "x"}, false)
	}
	for _, op := range []int{impl.InsGet, impl.InsPut} {
		for _, a := range []int{least, -80, -1, 0, 1, 78, 79, 80, 81, 256, 1 << 32, most} {
			isCode(t, impl.Ins{Op: op, A: a}, a >= 0 && a < 80)
			isCode(t, impl.Ins{Op: op, A: a, Name: "x"}, false)
		}
	}
	for _, op := range []int{impl.InsJump, impl.InsZero} {
		for _, a := range []int{least, -3, -1, 0, 1, 2, 3, 4, 5, 4000, 1 << 32, most} {
			isCode(t, impl.Ins{Op: op, A: a}, a >= 0 && a <= 3)
			isCode(t, impl.Ins{Op: op, A: a, Name: "x"}, false)
		}
		for _, n := range []int{1, 2, 10, 3999, 4000} {
			for a := n - 1; a <= n+1; a++ {
				c := append(slices.Repeat(codeOf("tick"), n-1), impl.Ins{Op: op, A: a})
				if impl.CodeOk(c) != (a <= n) {
					t.Fatalf("%d of %d", a, n)
				}
			}
		}
	}
}

func TestInstructionsWithKinds(t *testing.T) {
	ones := []int{impl.NodeNeg, impl.NodeNot, impl.NodeAbs}
	twos := []int{impl.NodeMul, impl.NodeDiv, impl.NodeMod, impl.NodeAdd, impl.NodeSub, impl.NodeEq, impl.NodeNe, impl.NodeLt, impl.NodeLe, impl.NodeGt, impl.NodeGe, impl.NodeMin, impl.NodeMax}
	kinds := []int{least, least + impl.NodeAdd, -1, 255, 256 + impl.NodeNeg, 1<<32 + impl.NodeAdd, most}
	for k := range 40 {
		kinds = append(kinds, k)
	}
	for _, k := range kinds {
		isCode(t, impl.Ins{Op: impl.InsOne, A: k}, slices.Contains(ones, k))
		isCode(t, impl.Ins{Op: impl.InsTwo, A: k}, slices.Contains(twos, k))
		isCode(t, impl.Ins{Op: impl.InsOne, A: k, Name: "x"}, false)
		isCode(t, impl.Ins{Op: impl.InsTwo, A: k, Name: "x"}, false)
	}
}

func TestInstructionsWithNames(t *testing.T) {
	for _, s := range []string{"x", "q", "abcdefgh", "a1", "z9999999", "iff"} {
		isCodeOfName(t, s, true)
		for _, a := range []int{1, -1, least, most} {
			isCode(t, impl.Ins{Op: impl.InsLoad, A: a, Name: s}, false)
		}
	}
	for _, s := range noNames {
		isCodeOfName(t, s, false)
		if s == "" {
			continue
		}
		for op := impl.InsTick; op <= impl.InsTimes; op++ {
			isCode(t, impl.Ins{Op: op, Name: s}, false)
		}
	}
}

func isCodeOfName(t *testing.T, s string, want bool) {
	t.Helper()
	c := []impl.Ins{{Op: impl.InsLoad, Name: s}}
	if impl.CodeOk(c) != want {
		t.Fatalf("%q: %v", s, !want)
	}
	if _, _, code := impl.CodeRun(c, nil); code != []int{impl.MeanBad, impl.MeanFree}[oneIf(want)] {
		t.Fatalf("%q: %d", s, code)
	}
}

func TestNumbersThatAreNoOps(t *testing.T) {
	for _, op := range []int{0, -1, -11, 12, 13, 99, 255, 256 + impl.InsPush, 1<<32 + impl.InsPush, least, least + impl.InsPush, most} {
		for _, a := range []int{0, 1, 3, 8} {
			isCode(t, impl.Ins{Op: op, A: a}, false)
			isCode(t, impl.Ins{Op: op, A: a, Name: "x"}, false)
		}
	}
	if impl.CodeOk(make([]impl.Ins, 5)) {
		t.Error("instructions of nothing")
	}
}

func TestCodeAgainstModel(t *testing.T) {
	r := rand.New(rand.NewSource(41))
	well := 0
	for range 40000 {
		c := make([]impl.Ins, r.Intn(5))
		for i := range c {
			c[i].Op = r.Intn(14) - 1
			if r.Intn(3) > 0 {
				c[i].A = []int{0, 1, 3, 4, 5, 8, 15, 16, 17, 18, 19, 20, 79, 80, -1, r.Intn(6)}[r.Intn(16)]
			}
			if (c[i].Op == impl.InsLoad) != (r.Intn(20) == 0) {
				c[i].Name = []string{"x", "y", "or", "abcdefghi", "z1"}[r.Intn(5)]
			}
		}
		want := modelOk(c)
		well += oneIf(want)
		if impl.CodeOk(c) != want {
			t.Fatalf("%+v: not %v", c, want)
		}
	}
	if well < 3000 || well > 37000 {
		t.Fatal(well)
	}
}

func TestLineOfEachInstruction(t *testing.T) {
	for _, c := range []struct {
		ins  impl.Ins
		line string
	}{
		{impl.Ins{Op: impl.InsTick}, "tick"}, {impl.Ins{Op: impl.InsPush, A: 7}, "push 7"}, {impl.Ins{Op: impl.InsPush}, "push 0"}, {impl.Ins{Op: impl.InsPush, A: -7}, "push -7"},
		{impl.Ins{Op: impl.InsPush, A: least}, "push -9223372036854775808"}, {impl.Ins{Op: impl.InsPush, A: most}, "push 9223372036854775807"},
		{impl.Ins{Op: impl.InsLoad, Name: "x"}, "load x"}, {impl.Ins{Op: impl.InsLoad, Name: "abcdefgh"}, "load abcdefgh"},
		{impl.Ins{Op: impl.InsGet}, "get 0"}, {impl.Ins{Op: impl.InsGet, A: 79}, "get 79"}, {impl.Ins{Op: impl.InsPut}, "put 0"}, {impl.Ins{Op: impl.InsPut, A: 79}, "put 79"},
		{impl.Ins{Op: impl.InsOne, A: impl.NodeNeg}, "neg"}, {impl.Ins{Op: impl.InsOne, A: impl.NodeNot}, "not"}, {impl.Ins{Op: impl.InsOne, A: impl.NodeAbs}, "abs"},
		{impl.Ins{Op: impl.InsTwo, A: impl.NodeMul}, "mul"}, {impl.Ins{Op: impl.InsTwo, A: impl.NodeDiv}, "div"}, {impl.Ins{Op: impl.InsTwo, A: impl.NodeMod}, "mod"}, {impl.Ins{Op: impl.InsTwo, A: impl.NodeAdd}, "add"}, {impl.Ins{Op: impl.InsTwo, A: impl.NodeSub}, "sub"},
		{impl.Ins{Op: impl.InsTwo, A: impl.NodeEq}, "eq"}, {impl.Ins{Op: impl.InsTwo, A: impl.NodeNe}, "ne"}, {impl.Ins{Op: impl.InsTwo, A: impl.NodeLt}, "lt"}, {impl.Ins{Op: impl.InsTwo, A: impl.NodeLe}, "le"}, {impl.Ins{Op: impl.InsTwo, A: impl.NodeGt}, "gt"}, {impl.Ins{Op: impl.InsTwo, A: impl.NodeGe}, "ge"},
		{impl.Ins{Op: impl.InsTwo, A: impl.NodeMin}, "min"}, {impl.Ins{Op: impl.InsTwo, A: impl.NodeMax}, "max"},
		{impl.Ins{Op: impl.InsJump}, "jump 0"}, {impl.Ins{Op: impl.InsJump, A: 2}, "jump 2"}, {impl.Ins{Op: impl.InsZero, A: 1}, "zero 1"}, {impl.Ins{Op: impl.InsZero}, "zero 0"},
		{impl.Ins{Op: impl.InsBool}, "bool"}, {impl.Ins{Op: impl.InsTimes}, "times"},
	} {
		if got := impl.CodeShow([]impl.Ins{{Op: impl.InsTick}, c.ins}); got != "tick\n"+c.line+"\n" {
			t.Errorf("%+v: %q, not %q", c.ins, got, c.line)
		}
		if got := impl.CodeShow([]impl.Ins{c.ins, {Op: impl.InsBool}}); got != c.line+"\nbool\n" {
			t.Errorf("%+v: %q, not %q", c.ins, got, c.line)
		}
	}
	// A place may be the end of the greatest code.
	c := append(slices.Repeat(codeOf("tick"), 3999), impl.Ins{Op: impl.InsJump, A: 4000})
	if got := impl.CodeShow(c); got != strings.Repeat("tick\n", 3999)+"jump "+strconv.Itoa(4000)+"\n" {
		t.Error("the end")
	}
}
