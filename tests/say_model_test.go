package tests

import (
	"encoding/binary"
	"fmt"
	"math/big"
	"math/rand"
	"regexp"
	"slices"
	"strings"

	"loop.example/headrace/impl"
)

// The model of words between nodes: Srcs ascend where sorting them changes nothing, sums are one great number, and bytes are read by a regular expression over a text that has a rune for each byte.

func modelSayOk(s impl.Say) bool {
	if s.From == s.To || min(s.From, s.To) < 0 || max(s.From, s.To) >= 10 || !recNameForm.MatchString(s.Name) {
		return false
	}
	switch s.Kind {
	case impl.SayAsk, impl.SayGone:
		return s.Val == 0 && len(s.Stamp) == 0
	case impl.SayTell:
		var srcs []string
		for _, v := range s.Stamp {
			if !recNameForm.MatchString(v.Src) || uint(v.Ver-1) >= 1<<40 {
				return false
			}
			srcs = append(srcs, v.Src)
		}
		sorted := slices.Compact(slices.Sorted(slices.Values(srcs)))
		return len(srcs) > 0 && len(srcs) < 13 && slices.Equal(sorted, srcs)
	}
	return false
}

// modelSaySum reckons with a 7 ahead as one number in digits of 263.
func modelSaySum(b string) int {
	sum, base := big.NewInt(7), big.NewInt(263)
	for _, c := range []byte(b) {
		sum.Add(sum.Mul(sum, base), big.NewInt(int64(c)))
	}
	return int(sum.Mod(sum, big.NewInt(65521)).Int64())
}

// said puts the right sum behind any bytes.
func said(b string) string {
	return b + string(binary.BigEndian.AppendUint16(nil, uint16(modelSaySum(b))))
}

func sixBytes(n int) string { return eightBytes(n)[2:] }

// bareSay are the bytes ahead of the sum, of words that may be and of many that may not.
func bareSay(s impl.Say) string {
	b := string([]byte{byte(s.Kind), byte(s.From), byte(s.To)}) + lengthAndText(s.Name)
	if s.Kind != impl.SayTell {
		return b
	}
	b += eightBytes(s.Val) + string([]byte{byte(len(s.Stamp))})
	for _, v := range s.Stamp {
		b += lengthAndText(v.Src) + sixBytes(v.Ver)
	}
	return b
}

func modelSayBytes(s impl.Say) string { return said(bareSay(s)) }

// runesOf is a text with a rune for each byte, and bytesOfRunes the bytes again.
func runesOf(b string) string {
	var runes []rune
	for _, c := range []byte(b) {
		runes = append(runes, rune(c))
	}
	return string(runes)
}

func bytesOfRunes(text string) string {
	var b []byte
	for _, c := range text {
		b = append(b, byte(c))
	}
	return string(b)
}

// lengthAndName is the form of a name behind its length.
func lengthAndName() string {
	var forms []string
	for n := 1; n <= 8; n++ {
		forms = append(forms, fmt.Sprintf(`\x%02x[-a-z0-9]{%d}`, n, n))
	}
	return "(?:" + strings.Join(forms, "|") + ")"
}

var (
	bareForm = regexp.MustCompile(`(?s)\A([\x01\x03])(.)(.)(` + lengthAndName() + `)..\z`)
	tellForm = regexp.MustCompile(`(?s)\A(\x02)(.)(.)(` + lengthAndName() + `)(.{8})(.)((?:` + lengthAndName() + `.{6})*)..\z`)
	verForm  = regexp.MustCompile(`(?s)(` + lengthAndName() + `)(.{6})`)
)

func numberOf(b string) int {
	return int(binary.BigEndian.Uint64([]byte(eightBytes(0)[len(b):] + b)))
}

func modelSayRead(b string) (impl.Say, bool) {
	m := bareForm.FindStringSubmatch(runesOf(b))
	if m == nil {
		m = tellForm.FindStringSubmatch(runesOf(b))
	}
	if m == nil || said(b[:len(b)-2]) != b {
		return impl.Say{}, false
	}
	for i := range m {
		m[i] = bytesOfRunes(m[i])
	}
	s := impl.Say{Kind: numberOf(m[1]), From: numberOf(m[2]), To: numberOf(m[3]), Name: m[4][1:]}
	if len(m) > 5 {
		s.Val = numberOf(m[5])
		for _, v := range verForm.FindAllStringSubmatch(runesOf(m[7]), -1) {
			s.Stamp = append(s.Stamp, impl.Ver{Src: v[1][1:], Ver: numberOf(bytesOfRunes(v[2]))})
		}
		if len(s.Stamp) != numberOf(m[6]) {
			return impl.Say{}, false
		}
	}
	if !modelSayOk(s) {
		return impl.Say{}, false
	}
	return s, true
}

func modelLine(s impl.Say) string {
	line := fmt.Sprintf("%d %d %s %s", s.From, s.To, []string{1: "asks", 2: "tells", 3: "gone"}[s.Kind], s.Name)
	if s.Kind != impl.SayTell {
		return line
	}
	line += fmt.Sprintf(" %d", s.Val)
	for _, v := range s.Stamp {
		line += fmt.Sprintf(" %s:%d", v.Src, v.Ver)
	}
	return line
}

var (
	lineForm = regexp.MustCompile(`\A([0-9]) ([0-9]) (?:(asks|gone) ([-a-z0-9]{1,8})|(tells) ([-a-z0-9]{1,8}) (0|-?[1-9][0-9]*)((?: [-a-z0-9]{1,8}:[1-9][0-9]*){1,12}))\z`)
	markForm = regexp.MustCompile(` ([-a-z0-9]+):([0-9]+)`)
)

// modelNumber is 0 for numbers that do not fit; no version is 0, and a value that does not fit is looked for by its text.
func modelNumber(text string) int {
	n, _ := new(big.Int).SetString(text, 10)
	if !n.IsInt64() {
		return 0
	}
	return int(n.Int64())
}

func modelSayFrom(line string) (impl.Say, bool) {
	m := lineForm.FindStringSubmatch(line)
	if m == nil {
		return impl.Say{}, false
	}
	s := impl.Say{Kind: map[string]int{"asks": 1, "tells": 2, "gone": 3}[m[3]+m[5]], From: modelNumber(m[1]), To: modelNumber(m[2]), Name: m[4] + m[6]}
	if m[5] != "" {
		s.Val = modelNumber(m[7])
		for _, v := range markForm.FindAllStringSubmatch(m[8], -1) {
			s.Stamp = append(s.Stamp, impl.Ver{Src: v[1], Ver: modelNumber(v[2])})
		}
		if s.Val == 0 && m[7] != "0" {
			return impl.Say{}, false
		}
	}
	if !modelSayOk(s) {
		return impl.Say{}, false
	}
	return s, true
}

func sameSay(a, b impl.Say) bool {
	return a.Kind == b.Kind && a.From == b.From && a.To == b.To && a.Name == b.Name && a.Val == b.Val && slices.Equal(a.Stamp, b.Stamp)
}

func sameSays(a, b []impl.Say) bool { return slices.EqualFunc(a, b, sameSay) }

// randomStamp has any names, or names that are much alike.
func randomStamp(r *rand.Rand, n int) []impl.Ver {
	vers := map[string]int{}
	for len(vers) < n {
		src := randomRecName(r)
		if r.Intn(2) == 0 {
			src = "a-0b9zyx"[:1+r.Intn(8)]
		}
		vers[src] = 1 + r.Intn(1<<r.Intn(41))
	}
	var stamp []impl.Ver
	for src, ver := range vers {
		stamp = append(stamp, impl.Ver{Src: src, Ver: ver})
	}
	slices.SortFunc(stamp, func(a, b impl.Ver) int { return strings.Compare(a.Src, b.Src) })
	return stamp
}

func randomSay(r *rand.Rand) impl.Say {
	nodes := r.Perm(10)
	s := impl.Say{Kind: 1 + r.Intn(3), From: nodes[0], To: nodes[1], Name: randomRecName(r)}
	if s.Kind == impl.SayTell {
		s.Val = int(r.Uint64()) >> r.Intn(64)
		s.Stamp = randomStamp(r, 1+r.Intn(12))
	}
	return s
}

func randomSays(r *rand.Rand, n int) []impl.Say {
	says := make([]impl.Say, n)
	for i := range says {
		says[i] = randomSay(r)
	}
	return says
}
