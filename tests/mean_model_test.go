package tests

import (
	"maps"
	"math/big"
	"slices"

	"loop.example/headrace/impl"
)

// The models of meanings: signs by numbers of any size that are wrapped in the end; trees by answers that carry their own count of steps, with no counter that all share and none that gives up on its way.

func wrapped(n *big.Int) int {
	low := new(big.Int).And(n, new(big.Int).SetUint64(1<<64-1))
	return int(low.Uint64())
}

func bigOf(n int) *big.Int { return big.NewInt(int64(n)) }

func oneIf(b bool) int {
	if b {
		return 1
	}
	return 0
}

func modelOp(kind, a, b int) int {
	x, y, z := bigOf(a), bigOf(b), new(big.Int)
	order := x.Cmp(y)
	switch kind {
	case impl.NodeNeg:
		return wrapped(z.Neg(x))
	case impl.NodeNot:
		return oneIf(x.Sign() == 0)
	case impl.NodeAbs:
		return wrapped(z.Abs(x))
	case impl.NodeMul:
		return wrapped(z.Mul(x, y))
	case impl.NodeAdd:
		return wrapped(z.Add(x, y))
	case impl.NodeSub:
		return wrapped(z.Sub(x, y))
	case impl.NodeDiv, impl.NodeMod:
		return modelParts(kind, x, y)
	case impl.NodeMin:
		return []int{a, a, b}[order+1]
	case impl.NodeMax:
		return []int{b, a, a}[order+1]
	case impl.NodeAnd:
		return oneIf(x.Sign()*y.Sign() != 0)
	case impl.NodeOr:
		return oneIf(x.Sign() != 0 || y.Sign() != 0)
	}
	orders := map[int][]int{impl.NodeEq: {0}, impl.NodeNe: {-1, 1}, impl.NodeLt: {-1}, impl.NodeLe: {-1, 0}, impl.NodeGt: {1}, impl.NodeGe: {1, 0}}
	return oneIf(slices.Contains(orders[kind], order))
}

// modelParts: how often the size of y goes into the size of x, with the sign of both; what is left with the sign of x.
func modelParts(kind int, x, y *big.Int) int {
	if y.Sign() == 0 {
		return 0
	}
	times, left := new(big.Int).DivMod(new(big.Int).Abs(x), new(big.Int).Abs(y), new(big.Int))
	if kind == impl.NodeDiv {
		return wrapped(times.Mul(times, big.NewInt(int64(x.Sign()*y.Sign()))))
	}
	return wrapped(left.Mul(left, big.NewInt(int64(x.Sign()))))
}

type values map[string]int

func (v values) with(name string, val int) values {
	more := maps.Clone(v)
	more[name] = val
	return more
}

const tooMany = impl.MeanMaxSteps + 1

// modelSteps is the value of a tree and how many steps it takes; from tooMany on nobody asks how many more.
func modelSteps(t []impl.Node, v values) (int, int) {
	n, kids := split(t)
	switch n.Kind {
	case impl.NodeNum:
		return n.Num, 1
	case impl.NodeName:
		return v[n.Name], 1
	}
	a, steps := modelSteps(kids[0], v)
	steps++
	if steps >= tooMany {
		return 0, tooMany
	}
	var next []impl.Node
	then := v
	how := func(b int) int { return b }
	switch {
	case n.Kind == impl.NodeRep:
		return modelRounds(n.Name, kids, v, a, steps)
	case n.Kind == impl.NodeIf:
		next = kids[2-oneIf(a != 0)]
	case n.Kind == impl.NodeLet:
		next, then = kids[1], v.with(n.Name, a)
	case n.Kind == impl.NodeAnd && a == 0:
		return 0, steps
	case n.Kind == impl.NodeOr && a != 0:
		return 1, steps
	case len(kids) == 1:
		return modelOp(n.Kind, a, 0), steps
	default:
		next = kids[1]
		how = func(b int) int { return modelOp(n.Kind, a, b) }
	}
	b, more := modelSteps(next, then)
	return how(b), steps + more
}

func modelRounds(name string, kids [][]impl.Node, v values, times, steps int) (int, int) {
	val, more := modelSteps(kids[1], v)
	steps += more
	for i := 0; i < times && i < 64; i++ {
		if steps >= tooMany {
			return 0, tooMany
		}
		val, more = modelSteps(kids[2], v.with(name, val))
		steps += 1 + more
	}
	return val, steps
}

func modelBinds(b []impl.Bind) bool {
	var names []string
	for _, x := range b {
		if !nameForm.MatchString(x.Name) || slices.Contains(allKeys, x.Name) {
			return false
		}
		names = append(names, x.Name)
	}
	slices.Sort(names)
	return len(b) <= 40 && len(slices.Compact(names)) == len(b)
}

func modelMean(t []impl.Node, b []impl.Bind) (int, int, int) {
	deep, end := modelDeep(t, 0)
	if deep == 0 || deep > 40 || end != len(t) || len(t) > 400 || !modelBinds(b) {
		return 0, 0, impl.MeanBad
	}
	v := values{}
	for _, x := range b {
		v[x.Name] = x.Val
	}
	free := map[string]bool{}
	modelFree(t, nil, free)
	for s := range free {
		if _, ok := v[s]; !ok {
			return 0, 0, impl.MeanFree
		}
	}
	val, steps := modelSteps(t, v)
	if steps >= tooMany {
		return 0, impl.MeanMaxSteps, impl.MeanSpent
	}
	return val, steps, impl.MeanDone
}
