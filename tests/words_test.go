package tests

import (
	"math/rand"
	"slices"
	"strings"
	"testing"

	"loop.example/headrace/impl"
)

func TestKeys(t *testing.T) {
	for _, k := range allKeys {
		if !impl.BodyKey(k) || impl.BodyNameOk(k) {
			t.Errorf("%q is a key and no name", k)
		}
		for _, no := range []string{k + "x", "x" + k, k + " ", " " + k, k[:len(k)-1] + "q", strings.ToUpper(k), k + "\x00"} {
			if impl.BodyKey(no) {
				t.Errorf("%q is no key", no)
			}
		}
	}
	for _, no := range []string{"", " ", "x", "(", "=", "12", "rep as", "a\xff", "ñ"} {
		if impl.BodyKey(no) {
			t.Errorf("%q is no key", no)
		}
	}
}

func TestNames(t *testing.T) {
	for _, ok := range []string{"a", "z", "a0", "z9", "abcdefgh", "a1234567", "iff", "ifs", "an", "ands", "o", "i", "then1", "nots", "absmin"} {
		if !impl.BodyNameOk(ok) {
			t.Errorf("%q is a name", ok)
		}
	}
	for _, no := range []string{"", "abcdefghi", "a12345678", "1", "1a", "0a", "A", "aB", "a b", " a", "a ", "a-b", "-a", "a_b", "a.b", "`", "{", "a{", "a`", "a/", "a:", "ä", "aä", "a\x00", "\xff", "a\xff", "\ufffd", "a\n"} {
		if impl.BodyNameOk(no) {
			t.Errorf("%q is no name", no)
		}
	}
	for b := range 256 {
		s := string([]byte{byte(b)})
		if impl.BodyNameOk(s) != (b >= 'a' && b <= 'z') {
			t.Errorf("first byte %d", b)
		}
		if impl.BodyNameOk("q"+s) != (b >= 'a' && b <= 'z' || b >= '0' && b <= '9') {
			t.Errorf("second byte %d", b)
		}
	}
}

func sameWords(t *testing.T, text string, want []impl.Word) {
	t.Helper()
	got, f := impl.BodyWords(text)
	if f != (impl.Fault{}) || !slices.Equal(got, want) {
		t.Fatalf("%q: %v %v, not %v", text, got, f, want)
	}
}

func wrongWords(t *testing.T, text string, code, at int) {
	t.Helper()
	got, f := impl.BodyWords(text)
	if len(got) != 0 || f.Code != code || f.At != at {
		t.Fatalf("%.60q: %v %v, not %d at %d", text, got, f, code, at)
	}
}

func TestWordsOfTexts(t *testing.T) {
	sameWords(t, "", nil)
	sameWords(t, "   ", nil)
	sameWords(t, "  x ", []impl.Word{{Kind: impl.WordName, Text: "x", At: 2}})
	sameWords(t, "let a1=0 in a1", []impl.Word{{Kind: impl.WordKey, Text: "let", At: 0}, {Kind: impl.WordName, Text: "a1", At: 4}, {Kind: impl.WordSign, Text: "=", At: 6}, {Kind: impl.WordNumber, Text: "0", At: 7}, {Kind: impl.WordKey, Text: "in", At: 9}, {Kind: impl.WordName, Text: "a1", At: 12}})
	sameWords(t, "12ab3", []impl.Word{{Kind: impl.WordNumber, Text: "12", At: 0}, {Kind: impl.WordName, Text: "ab3", At: 2}})
	sameWords(t, "0if", []impl.Word{{Kind: impl.WordNumber, Text: "0", At: 0}, {Kind: impl.WordKey, Text: "if", At: 1}})
	sameWords(t, "-0-10", []impl.Word{{Kind: impl.WordSign, Text: "-", At: 0}, {Kind: impl.WordNumber, Text: "0", At: 1}, {Kind: impl.WordSign, Text: "-", At: 2}, {Kind: impl.WordNumber, Text: "10", At: 3}})
	for _, k := range allKeys {
		sameWords(t, " "+k, []impl.Word{{Kind: impl.WordKey, Text: k, At: 1}})
		sameWords(t, k+"0", []impl.Word{{Kind: impl.WordName, Text: k + "0", At: 0}})
	}
}

func TestSignsTheLongerOnesFirst(t *testing.T) {
	for _, s := range allSigns {
		sameWords(t, s, []impl.Word{{Kind: impl.WordSign, Text: s, At: 0}})
		sameWords(t, "1"+s+"a", []impl.Word{{Kind: impl.WordNumber, Text: "1", At: 0}, {Kind: impl.WordSign, Text: s, At: 1}, {Kind: impl.WordName, Text: "a", At: 1 + len(s)}})
	}
	for _, text := range []string{"<=>", "<==", "<<=", ">==>", "===", "!==", "=!=", "<!=", ">=<=!=", "<>", "=<", "=>", "--", "+-*/%", "(,)"} {
		want, f := modelWords(text)
		if f.Code != 0 {
			t.Fatal(text)
		}
		sameWords(t, text, want)
	}
	sameWords(t, "< =", []impl.Word{{Kind: impl.WordSign, Text: "<", At: 0}, {Kind: impl.WordSign, Text: "=", At: 2}})
	wrongWords(t, "!", impl.BodyByte, 0)
	wrongWords(t, "a! = b", impl.BodyByte, 1)
	wrongWords(t, "!!=", impl.BodyByte, 0)
	wrongWords(t, "!=!", impl.BodyByte, 2)
	wrongWords(t, "!<=", impl.BodyByte, 0)
}

func TestWordLimits(t *testing.T) {
	sameWords(t, strings.Repeat(" ", 1500), nil)
	wrongWords(t, strings.Repeat(" ", 1501), impl.BodyLong, 0)
	wrongWords(t, strings.Repeat(" ", 1500)+"\xff", impl.BodyLong, 0)
	wrongWords(t, strings.Repeat("_", 1501), impl.BodyLong, 0)
	wrongWords(t, strings.Repeat("_", 1500), impl.BodyByte, 0)
	wrongWords(t, strings.Repeat("ä", 751), impl.BodyLong, 0)
	if w, f := impl.BodyWords(strings.Repeat("+", 1500)); len(w) != 1500 || f.Code != 0 || w[1499].At != 1499 {
		t.Fatal("1500 signs are 1500 words")
	}
	last := strings.Repeat(" ", 1499) + "7"
	sameWords(t, last, []impl.Word{{Kind: impl.WordNumber, Text: "7", At: 1499}})

	nines := strings.Repeat("9", 18)
	sameWords(t, nines, []impl.Word{{Kind: impl.WordNumber, Text: nines, At: 0}})
	wrongWords(t, " "+nines+"9", impl.BodyNumber, 1)
	wrongWords(t, "1"+strings.Repeat("0", 18), impl.BodyNumber, 0)
	wrongWords(t, strings.Repeat("9", 1500), impl.BodyNumber, 0)
	sameWords(t, "0", []impl.Word{{Kind: impl.WordNumber, Text: "0", At: 0}})
	for _, noughts := range []string{"00", "01", "007", "0" + nines, "000000000000000001"} {
		wrongWords(t, "a+"+noughts, impl.BodyNumber, 2)
	}

	sameWords(t, "abcdefgh", []impl.Word{{Kind: impl.WordName, Text: "abcdefgh", At: 0}})
	sameWords(t, "a9999999", []impl.Word{{Kind: impl.WordName, Text: "a9999999", At: 0}})
	wrongWords(t, "1+abcdefghi", impl.BodyName, 2)
	wrongWords(t, "a99999999", impl.BodyName, 0)
	wrongWords(t, "thenthent", impl.BodyName, 0)
	wrongWords(t, strings.Repeat("q", 1500), impl.BodyName, 0)
}

func TestTheFirstFaultOfWords(t *testing.T) {
	wrongWords(t, "a _ 01 abcdefghi", impl.BodyByte, 2)
	wrongWords(t, "a 01 _ abcdefghi", impl.BodyNumber, 2)
	wrongWords(t, "a abcdefghi 01 _", impl.BodyName, 2)
	wrongWords(t, "abcdefghi_", impl.BodyName, 0)
	wrongWords(t, "01_", impl.BodyNumber, 0)
	wrongWords(t, "01abcdefghi", impl.BodyNumber, 0)
	wrongWords(t, "1abcdefghi", impl.BodyName, 1)
	wrongWords(t, "1 \t", impl.BodyByte, 2)
	wrongWords(t, "aB", impl.BodyByte, 1)
	wrongWords(t, "aä", impl.BodyByte, 1)
	wrongWords(t, "a\xc3", impl.BodyByte, 1)
	wrongWords(t, "ä+\xff", impl.BodyByte, 0)
	wrongWords(t, "+\ufffd", impl.BodyByte, 1)
	wrongWords(t, "x\u00a0y", impl.BodyByte, 1)
}

func sameAsModel(t *testing.T, text string) {
	t.Helper()
	want, fault := modelWords(text)
	got, f := impl.BodyWords(text)
	if f != fault || !slices.Equal(got, want) {
		t.Fatalf("%q: %v %v, not %v %v", text, got, f, want, fault)
	}
}

func TestWordsOfAllShortTexts(t *testing.T) {
	for a := range 256 {
		sameAsModel(t, string([]byte{byte(a)}))
		for b := range 256 {
			sameAsModel(t, string([]byte{byte(a), byte(b)}))
			sameAsModel(t, string([]byte{'x', byte(a), byte(b)}))
		}
	}
}

func TestWordsOfRandomTexts(t *testing.T) {
	r := rand.New(rand.NewSource(1))
	alphabets := []string{"ab19 0=<>!", "abcdefghijklmnopqrstuvwxyz0123456789 ", "if then(+,-)*/%<=>=!= 10", "a 1=\xff\xc3\xa4_\x00\n"}
	for range 40000 {
		from := alphabets[r.Intn(len(alphabets))]
		b := make([]byte, r.Intn(24))
		for i := range b {
			b[i] = from[r.Intn(len(from))]
			if r.Intn(200) == 0 {
				b[i] = byte(r.Intn(256))
			}
		}
		sameAsModel(t, string(b))
	}
}
