package tests

import (
	"encoding/binary"
	"math/big"
	"math/rand"
	"regexp"

	"loop.example/headrace/impl"
)

// The model of records: names by a regular expression, sums by one great number, reading by a look at each record that the first bytes could be of.

var recNameForm = regexp.MustCompile(`\A[-a-z0-9]{1,8}\z`)

func modelRecOk(r impl.Rec) bool {
	if !recNameForm.MatchString(r.Name) {
		return false
	}
	bare := impl.Rec{Kind: r.Kind, Name: r.Name}
	switch r.Kind {
	case impl.RecDefine:
		bare.Text = r.Text
		return r == bare && len(r.Text) < 201
	case impl.RecRemove:
		return r == bare
	case impl.RecValue:
		bare.Num = r.Num
		return r == bare
	case impl.RecLend:
		bare.Num = r.Num
		return r == bare && r.Num > 0 && uint(r.Num) < 1<<50+1
	}
	return false
}

// modelSum reckons with a 1 ahead as one number in digits of 257.
func modelSum(b string) int {
	sum, base := big.NewInt(1), big.NewInt(257)
	for _, c := range []byte(b) {
		sum.Add(sum.Mul(sum, base), big.NewInt(int64(c)))
	}
	return int(sum.Mod(sum, big.NewInt(65521)).Int64())
}

// summed puts the right sum behind any bytes.
func summed(b string) string {
	n := modelSum(b)
	return b + string([]byte{byte(n / 256), byte(n % 256)})
}

func lengthAndText(s string) string {
	return string([]byte{byte(len(s))}) + s
}

func eightBytes(n int) string {
	return string(binary.BigEndian.AppendUint64(nil, uint64(n)))
}

// bareBytes are the bytes ahead of the sum.
func bareBytes(r impl.Rec) string {
	b := string([]byte{byte(r.Kind)}) + lengthAndText(r.Name)
	switch r.Kind {
	case impl.RecDefine:
		b += lengthAndText(r.Text)
	case impl.RecValue, impl.RecLend:
		b += eightBytes(r.Num)
	}
	return b
}

func modelRecBytes(r impl.Rec) string { return summed(bareBytes(r)) }

// modelRecRead tries each place at which a record's name, text and number could end.
func modelRecRead(b string) (impl.Rec, int, bool) {
	for name := 2; name <= min(10, len(b)); name++ {
		if lengthAndText(b[2:name]) != b[1:name] {
			continue
		}
		for end := name; end <= min(name+201, len(b)-2); end++ {
			r := impl.Rec{Kind: int(b[0]), Name: b[2:name]}
			behind := b[name:end]
			switch {
			case r.Kind == impl.RecDefine && behind != "":
				r.Text = behind[1:]
			case len(behind) == 8:
				r.Num = int(binary.BigEndian.Uint64([]byte(behind)))
			}
			if bareBytes(r) == b[:end] && modelRecOk(r) && summed(b[:end]) == b[:end+2] {
				return r, end + 2, true
			}
		}
	}
	return impl.Rec{}, 0, false
}

const recNameBytes = "abcdefghijklmnopqrstuvwxyz0123456789-"

func randomRecName(r *rand.Rand) string {
	b := make([]byte, 1+r.Intn(8))
	for i := range b {
		b[i] = recNameBytes[r.Intn(len(recNameBytes))]
	}
	return string(b)
}

func randomRec(r *rand.Rand) impl.Rec {
	rec := impl.Rec{Kind: 1 + r.Intn(4), Name: randomRecName(r)}
	switch rec.Kind {
	case impl.RecDefine:
		rec.Text = someBytes(r, r.Intn(20))
		if r.Intn(10) == 0 {
			rec.Text = someBytes(r, r.Intn(201))
		}
	case impl.RecValue:
		rec.Num = int(r.Uint64()) >> r.Intn(64)
	case impl.RecLend:
		rec.Num = 1 + r.Intn(1<<r.Intn(51))
	}
	return rec
}

func randomRecs(r *rand.Rand, n int) []impl.Rec {
	recs := make([]impl.Rec, n)
	for i := range recs {
		recs[i] = randomRec(r)
	}
	return recs
}
