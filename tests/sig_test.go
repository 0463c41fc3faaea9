package tests

import (
	"math/rand"
	"slices"
	"strings"
	"testing"

	"loop.example/headrace/impl"
)

// insAre holds SigIns against the model and what is told: the inputs, with blanks between; "?" where the body has none as it should.
func insAre(t *testing.T, body, want string) {
	t.Helper()
	ins, ok := impl.SigIns(body)
	modelled, modelOk := modelIns(body)
	if ok != modelOk || !slices.Equal(ins, modelled) {
		t.Errorf("%q: %q %v, the model %q %v", body, ins, ok, modelled, modelOk)
	}
	if ok != (want != "?") || ok && !slices.Equal(ins, strings.Fields(want)) || !ok && len(ins) > 0 {
		t.Errorf("%q: %q %v, not %q", body, ins, ok, want)
	}
	for _, s := range []impl.Sig{{Name: "name", Body: body}, {Name: "x", Home: 4, Body: body}} {
		if impl.SigOk(s) != ok {
			t.Errorf("%+v: %v", s, !ok)
		}
	}
}

func TestInputsOfBodies(t *testing.T) {
	for _, c := range []struct{ body, want string }{
		{"", ""}, {"x", "x"}, {"-x", "x"}, {"x + x", "x"}, {"x * x - x", "x"}, {" x", "x"}, {"x   ", "x"}, {"((x))", "x"}, {"abcdefgh", "abcdefgh"}, {"x+1", "x"},
		{"a + b", "a b"}, {"b + a", "a b"}, {"z + y + x", "x y z"}, {"b + a + b", "a b"}, {"ab + a", "a ab"}, {"a1 + a", "a a1"}, {"aa + b + a1", "a1 aa b"}, {"d + c + b + a", "a b c d"}, {"d * (c + a) * b - d - a", "a b c d"},
		{"min(q, p)", "p q"}, {"if z then b else a", "a b z"}, {"not z and b or a", "a b z"}, {"0 and x", "x"}, {"1 or x", "x"}, {"if 0 then x else 1", "x"}, {"rep 0 as s from 1 by x", "x"}, {"x * 0", "x"},
		{"let a = b in a", "b"}, {"let a = a in a", "a"}, {"let a = 1 in b", "b"}, {"(let a = 1 in a) + a", "a"}, {"b + a + (let c = 1 in c)", "a b"}, {"let x = y in let y = x in x + y", "y"}, {"let a = z in rep a as b from a by a + b", "z"},
		{"rep n as s from n by s + 1", "n"}, {"rep s as s from 1 by s", "s"}, {"rep 3 as s from s by s", "s"}, {"rep c as s from b by s + a", "a b c"}, {"let v = a + b in v * (c + d) * v", "a b c d"}, {"let e = a in b + c + d + e", "a b c d"},
		{endless + " + x", "x"}, {"if iff then nott else repp", "iff nott repp"},
		// no inputs, or too many
		{"7", "?"}, {"0", "?"}, {"1 + 2 * 3", "?"}, {"let a = 1 in a", "?"}, {"let a = 1 in let b = a in a + b", "?"}, {"rep 3 as s from 1 by s + s", "?"}, {endless, "?"}, {"abs(1)", "?"},
		{"a + b + c + d + e", "?"}, {"e + d + c + b + a", "?"}, {"let f = a in b + c + d + e + f", "?"}, {"a + b + c + d + (let d = 1 in d) + e", "?"}, {"a + b + c + d + e + f + g", "?"}, {"rep a as s from b by c + d + e + s", "?"},
		// bodies that are not read
		{" ", "?"}, {"    ", "?"}, {"x +", "?"}, {"+ x", "?"}, {"x y", "?"}, {"(x", "?"}, {"x)", "?"}, {"()", "?"}, {"if", "?"}, {"let x", "?"}, {"let if = x in x", "?"}, {"x = y = z", "?"}, {"X", "?"}, {"x + Y", "?"}, {"x_1", "?"}, {"ä", "?"}, {"x\n", "?"}, {"\x00", "?"}, {"x\xff", "?"}, {"x;", "?"}, {"x!", "?"}, {"abcdefghi", "?"}, {"x + 01", "?"}, {"x + 1234567890123456789", "?"}, {"1x", "?"}, {"a-b:1", "?"},
	} {
		insAre(t, c.body, c.want)
	}
	if ins, ok := impl.SigIns("a - b"); !ok || !slices.Equal(ins, []string{"a", "b"}) {
		t.Error(ins)
	}
}

func TestHowManyInputsBodiesHave(t *testing.T) {
	names := strings.Fields("g f e d c b a")
	for n := range 8 {
		body := strings.Join(append([]string{"1"}, names[:n]...), " + ")
		want := "?"
		if n >= 1 && n <= 4 {
			want = strings.Join(slices.Sorted(slices.Values(names[:n])), " ")
		}
		insAre(t, body, want)
		insAre(t, body+" - "+body, want)
	}
}

func TestHowLongBodiesAre(t *testing.T) {
	for _, n := range []int{1, 2, 100, 198, 199, 200, 201, 202, 256, 300, 400, 1499, 1500, 1501, 3000} {
		want := "x"
		if n > 200 {
			want = "?"
		}
		blanks := strings.Repeat(" ", n-1)
		insAre(t, blanks+"x", want)
		insAre(t, "x"+blanks, want)
		insAre(t, blanks[:n/2]+"x"+blanks[n/2:], want)
		insAre(t, blanks+"7", "?")
		insAre(t, blanks+" ", "?")
		insAre(t, blanks+"+", "?")
	}
	for n := range 102 {
		body := strings.Repeat("x+", n) + "x"
		// from the fortieth sign on the tree is too deep, long ahead of the last byte
		insAre(t, body, []string{"x", "?"}[oneIf(n >= 40)])
		insAre(t, strings.Repeat("-", n)+"x", []string{"x", "?"}[oneIf(n >= 40)])
		insAre(t, strings.Repeat("(", n)+"x"+strings.Repeat(")", n), []string{"x", "?"}[oneIf(2*n+1 > 200)])
	}
	insAre(t, strings.Repeat("ä", 100), "?")
	insAre(t, "a*a*a*a*a+"+strings.Repeat("(b+c)*", 20)+"d"+strings.Repeat(" ", 69), "a b c d")
	insAre(t, "a*a*a*a*a+"+strings.Repeat("(b+c)*", 20)+"d"+strings.Repeat(" ", 70), "?")
}

func TestInputsAgainstModel(t *testing.T) {
	r := rand.New(rand.NewSource(250))
	seen := [6]int{}
	for range 2500 {
		body := impl.TreeShow(busyTree(r, 1+r.Intn(20), 1+r.Intn(5)))
		if r.Intn(2) == 0 {
			body = impl.TreeShow(randomTree(r, 1+r.Intn(24), 1+r.Intn(6)))
		}
		if r.Intn(6) == 0 {
			body = bentBody(r, body)
		}
		want, ok := modelIns(body)
		seen[5*oneIf(!ok)+len(want)]++
		insAre(t, body, [2]string{"?", strings.Join(want, " ")}[oneIf(ok)])
	}
	if slices.Min(seen[1:]) < 60 {
		t.Fatal(seen)
	}
}

func sigOk(t *testing.T, s impl.Sig, want bool) {
	t.Helper()
	if impl.SigOk(s) != want || modelSigOk(s) != want {
		t.Errorf("%+v: %v, the model %v", s, impl.SigOk(s), modelSigOk(s))
	}
	// such a signal alone is a register just if it is a source
	if r := (impl.Reg{Sigs: []impl.Sig{s}}); impl.RegOk(r) != (want && s.Body == "") {
		t.Errorf("%+v alone: %v", s, impl.RegOk(r))
	}
	if _, code := impl.RegAdd(impl.Reg{}, s); (code == impl.RegBad) == want {
		t.Errorf("%+v: %d", s, code)
	}
}

func TestNamesOfSignals(t *testing.T) {
	for _, body := range []string{"", "q1 + q2"} {
		for _, name := range []string{"a", "z", "a1", "x9y8z7", "abcdefgh", "a0000000", "iff", "nott", "inn", "mi", "maxx"} {
			sigOk(t, impl.Sig{Name: name, Body: body}, true)
		}
		for _, name := range append([]string{"-", "a-b", "-a", "0", "9a", "abcdefg-", "aaaaaaaaa", strings.Repeat("a", 1000), "a:1", "a.b", "a+b"}, noNames...) {
			sigOk(t, impl.Sig{Name: name, Body: body}, false)
		}
		for c := range 256 {
			letter, digit := c >= 'a' && c <= 'z', c >= '0' && c <= '9'
			sigOk(t, impl.Sig{Name: string([]byte{byte(c)}), Body: body}, letter)
			sigOk(t, impl.Sig{Name: string([]byte{'q', byte(c)}), Body: body}, letter || digit)
			sigOk(t, impl.Sig{Name: string([]byte{byte(c), 'q'}), Body: body}, letter)
		}
	}
	// whether a name is among its own inputs is the register's business
	sigOk(t, impl.Sig{Name: "x", Body: "x"}, true)
	sigOk(t, impl.Sig{}, false)
}

func TestHomesOfSignals(t *testing.T) {
	for _, body := range []string{"", "y"} {
		for home := -10; home <= 20; home++ {
			sigOk(t, impl.Sig{Name: "x", Home: home, Body: body}, home >= 0 && home <= 4)
		}
		for _, home := range []int{least, least + 1, most, 1 << 32, 1<<32 + 4, 256, 257, -1 << 32, 255} {
			sigOk(t, impl.Sig{Name: "x", Home: home, Body: body}, false)
		}
	}
}

func TestBodiesOfSignals(t *testing.T) {
	for _, body := range []string{"", "y", "a + b + c + d", "let a = b in a", strings.Repeat(" ", 199) + "y"} {
		sigOk(t, impl.Sig{Name: "x", Body: body}, true)
		sigOk(t, impl.Sig{Name: "X", Body: body}, false)
		sigOk(t, impl.Sig{Name: "x", Home: 5, Body: body}, false)
	}
	for _, body := range []string{" ", "7", "y +", "a + b + c + d + e", "let a = 1 in a", strings.Repeat(" ", 200) + "y", "Y", "\n", "y\n"} {
		sigOk(t, impl.Sig{Name: "x", Body: body}, false)
		sigOk(t, impl.Sig{Name: "X", Home: -1, Body: body}, false)
	}
}
