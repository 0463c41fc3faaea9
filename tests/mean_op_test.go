package tests

import (
	"math"
	"math/rand"
	"testing"

	"loop.example/headrace/impl"
)

// edgeNums: 0, 1, -1, ordinary ones, the ends, and such as make products wrap.
var edgeNums = []int{0, 1, -1, 2, -2, 3, 7, -7, 10, -64, 1 << 31, -1 << 31, 1 << 32, 3037000499, 3037000500, -3037000500, greatest, -greatest, math.MaxInt / 2, math.MinInt / 2, math.MaxInt - 1, math.MaxInt, math.MinInt + 1, math.MinInt}

const (
	least = math.MinInt
	most  = math.MaxInt
)

func TestSigns(t *testing.T) {
	for _, c := range []struct{ kind, a, b, want int }{
		{impl.NodeNeg, 0, 9, 0}, {impl.NodeNeg, 5, 0, -5}, {impl.NodeNeg, -5, 1, 5}, {impl.NodeNeg, most, 0, -most}, {impl.NodeNeg, least, 0, least},
		{impl.NodeNot, 0, 0, 1}, {impl.NodeNot, 0, 5, 1}, {impl.NodeNot, 1, 0, 0}, {impl.NodeNot, -1, 0, 0}, {impl.NodeNot, least, 0, 0},
		{impl.NodeAbs, 0, 3, 0}, {impl.NodeAbs, 4, -9, 4}, {impl.NodeAbs, -4, 9, 4}, {impl.NodeAbs, least + 1, 0, most}, {impl.NodeAbs, least, 0, least},
		{impl.NodeMul, 6, -7, -42}, {impl.NodeMul, most, 2, -2}, {impl.NodeMul, least, -1, least}, {impl.NodeMul, least, 2, 0}, {impl.NodeMul, 1 << 32, 1 << 31, least},
		{impl.NodeAdd, most, 1, least}, {impl.NodeAdd, least, -1, most}, {impl.NodeAdd, least, least, 0}, {impl.NodeAdd, 2, 3, 5},
		{impl.NodeSub, least, 1, most}, {impl.NodeSub, 0, least, least}, {impl.NodeSub, most, -1, least}, {impl.NodeSub, 2, 3, -1},
		{impl.NodeDiv, 7, 2, 3}, {impl.NodeDiv, -7, 2, -3}, {impl.NodeDiv, 7, -2, -3}, {impl.NodeDiv, -7, -2, 3}, {impl.NodeDiv, 1, 2, 0}, {impl.NodeDiv, -1, 2, 0},
		{impl.NodeMod, 7, 2, 1}, {impl.NodeMod, -7, 2, -1}, {impl.NodeMod, 7, -2, 1}, {impl.NodeMod, -7, -2, -1}, {impl.NodeMod, 1, least, 1}, {impl.NodeMod, -6, 3, 0},
		{impl.NodeDiv, 7, 0, 0}, {impl.NodeDiv, 0, 0, 0}, {impl.NodeDiv, least, 0, 0}, {impl.NodeMod, 7, 0, 0}, {impl.NodeMod, -7, 0, 0}, {impl.NodeMod, least, 0, 0},
		{impl.NodeDiv, least, -1, least}, {impl.NodeMod, least, -1, 0}, {impl.NodeDiv, most, -1, -most}, {impl.NodeDiv, least, 1, least}, {impl.NodeDiv, least, least, 1}, {impl.NodeDiv, most, least, 0}, {impl.NodeDiv, least, most, -1}, {impl.NodeMod, least, most, -1},
		{impl.NodeMin, 3, -4, -4}, {impl.NodeMin, -4, 3, -4}, {impl.NodeMin, least, most, least}, {impl.NodeMax, 3, -4, 3}, {impl.NodeMax, -4, 3, 3}, {impl.NodeMax, least, most, most},
		{impl.NodeEq, 3, 3, 1}, {impl.NodeEq, 3, 4, 0}, {impl.NodeNe, 3, 3, 0}, {impl.NodeNe, 3, 4, 1},
		{impl.NodeLt, 3, 4, 1}, {impl.NodeLt, 4, 4, 0}, {impl.NodeLt, least, most, 1}, {impl.NodeLe, 4, 4, 1}, {impl.NodeLe, 5, 4, 0}, {impl.NodeLe, 3, 4, 1},
		{impl.NodeGt, 4, 3, 1}, {impl.NodeGt, 4, 4, 0}, {impl.NodeGt, most, least, 1}, {impl.NodeGe, 4, 4, 1}, {impl.NodeGe, 4, 5, 0}, {impl.NodeGe, 4, 3, 1},
		{impl.NodeAnd, 0, 0, 0}, {impl.NodeAnd, 0, 5, 0}, {impl.NodeAnd, 5, 0, 0}, {impl.NodeAnd, 2, 4, 1}, {impl.NodeAnd, -1, least, 1},
		{impl.NodeOr, 0, 0, 0}, {impl.NodeOr, 0, 5, 1}, {impl.NodeOr, -5, 0, 1}, {impl.NodeOr, 2, 4, 1}, {impl.NodeOr, 1, -1, 1},
	} {
		if got := impl.MeanOp(c.kind, c.a, c.b); got != c.want {
			t.Errorf("%q of %d and %d: %d, not %d", wordOf[c.kind], c.a, c.b, got, c.want)
		}
	}
}

func TestSignsAgainstModel(t *testing.T) {
	r := rand.New(rand.NewSource(31))
	for k := impl.NodeNeg; k <= impl.NodeAbs; k++ {
		same := func(a, b int) {
			if got, want := impl.MeanOp(k, a, b), modelOp(k, a, b); got != want {
				t.Fatalf("%q of %d and %d: %d, not %d", wordOf[k], a, b, got, want)
			}
		}
		for _, a := range edgeNums {
			for _, b := range edgeNums {
				same(a, b)
			}
		}
		for range 300 {
			same(int(r.Uint64()), int(r.Uint64())>>r.Intn(64))
			same(r.Intn(41)-20, r.Intn(41)-20)
		}
	}
}

func TestKindsThatAreNoSigns(t *testing.T) {
	for _, k := range []int{impl.NodeNum, impl.NodeName, impl.NodeIf, impl.NodeLet, impl.NodeRep, 0, -1, -8, 24, 25, 99, 256 + impl.NodeAdd, 1<<32 + impl.NodeAdd, least, least + impl.NodeAdd, most} {
		for _, a := range edgeNums {
			for _, b := range edgeNums {
				if got := impl.MeanOp(k, a, b); got != 0 {
					t.Fatalf("kind %d of %d and %d: %d", k, a, b, got)
				}
			}
		}
	}
}
