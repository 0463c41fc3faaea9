package tests

import (
	"math/rand"
	"slices"
	"testing"

	"loop.example/headrace/impl"
)

func roomySig(s impl.Sig) impl.Sig {
	return impl.Sig{Name: roomyText(s.Name), Home: s.Home, Body: roomyText(s.Body)}
}

func roomyReg(r impl.Reg) impl.Reg {
	sigs := slices.Clone(r.Sigs)
	for i := range sigs {
		sigs[i] = roomySig(sigs[i])
	}
	return impl.Reg{Sigs: roomy(sigs, impl.Sig{Name: "guard", Home: -1, Body: "guard"}), Gone: roomyTexts(r.Gone)}
}

func roomyVals(b []impl.Bind) []impl.Bind {
	b = slices.Clone(b)
	for i := range b {
		b[i].Name = roomyText(b[i].Name)
	}
	return roomy(b, impl.Bind{Name: "guard", Val: -1})
}

func TestInputsAreNewMemory(t *testing.T) {
	r := rand.New(rand.NewSource(260))
	told := 0
	for range 1500 {
		text := randomBody(r, regNames)
		if r.Intn(5) == 0 {
			text = bentBody(r, text)
		}
		body := roomyText(text)
		s := impl.Sig{Name: roomyText("name"), Body: body}
		keepsApart(t, func() many {
			ins, ok := impl.SigIns(body)
			told += oneIf(ok)
			impl.SigOk(s)
			return many{ins}
		}, body, s)
	}
	if told < 1000 {
		t.Fatal(told)
	}
}

func TestRegistersAreNewMemory(t *testing.T) {
	r := rand.New(rand.NewSource(261))
	added, dropped := [8]int{}, [8]int{}
	for n := range 600 {
		plain := randomReg(r, r.Intn(17))
		switch n % 5 {
		case 0:
			plain = turnedReg(r, 1+r.Intn(16))
		case 1:
			plain.Gone = numbered("g", 58+r.Intn(3))
		case 2:
			plain = randomReg(r, 16)
			plain.Gone = nil
		}
		reg, s, b := roomyReg(plain), roomySig(anySig(r, plain)), roomyVals(randomVals(r, plain))
		name := roomyText(append(sigNames(plain), "x")[r.Intn(len(plain.Sigs)+1)])
		keepsApart(t, func() many {
			impl.RegOk(reg)
			impl.RegAt(reg, name)
			impl.RegDepth(reg, name)
			impl.RegMean(reg, b, name)
			with, code := impl.RegAdd(reg, s)
			added[code]++
			without, code := impl.RegDrop(reg, name)
			dropped[code]++
			return many{with, without, impl.RegSources(reg, name)}
		}, reg, s, b, name)
	}
	if slices.Min(added[:impl.RegMany+1]) < 5 || min(dropped[impl.RegDone], dropped[impl.RegBad], dropped[impl.RegNone], dropped[impl.RegHeld], dropped[impl.RegMany]) < 10 {
		t.Fatal(added, dropped)
	}
}

// Where a place is free behind the lists of an argument nothing is put there, at each code.
func TestRoomBehindRegisters(t *testing.T) {
	full := sourcesOnly(16)
	full.Gone = numbered("g", 60)
	for _, plain := range []impl.Reg{{}, regOf("x", ""), regOf("", "b"), regOf(fewLines, "a g"), sourcesOnly(15), full, layered(12), regOf("x; x", "")} {
		for _, line := range []string{"new", "new = x", "x", "g", "u = u", "u = q", "X"} {
			reg, s := roomyReg(plain), roomySig(sig(line))
			keepsApart(t, func() many {
				then, _ := impl.RegAdd(reg, s)
				return many{then}
			}, reg, s)
			keepsApart(t, func() many {
				then, _ := impl.RegDrop(reg, s.Name)
				return many{then}
			}, reg, s)
		}
		for _, name := range sigNames(plain) {
			reg, name := roomyReg(plain), roomyText(name)
			keepsApart(t, func() many {
				then, _ := impl.RegDrop(reg, name)
				return many{then, impl.RegSources(reg, name)}
			}, reg, name)
		}
	}
}

// What is answered stays as it is whatever becomes of the arguments, and of other answers.
func TestAnswersOfRegistersStay(t *testing.T) {
	r := rand.New(rand.NewSource(262))
	for range 300 {
		plain := randomReg(r, 1+r.Intn(15))
		reg, name := roomyReg(plain), plain.Sigs[r.Intn(len(plain.Sigs))].Name
		calls := func() many {
			with, _ := impl.RegAdd(reg, impl.Sig{Name: "new"})
			without, _ := impl.RegDrop(reg, name)
			return many{with, without, impl.RegSources(reg, name)}
		}
		answers, others := calls(), calls()
		want := answers.contents()
		for _, other := range others {
			switch x := other.(type) {
			case impl.Reg:
				spoil(x.Sigs, impl.Sig{Name: "spoilt"})
				spoil(x.Gone, "spoilt")
			case []string:
				spoil(x, "spoilt")
			}
		}
		spoil(reg.Sigs, impl.Sig{Name: "spoilt"})
		spoil(reg.Gone, "spoilt")
		if answers.contents() != want {
			t.Fatalf("%v became others", answers)
		}
	}
}
