package tests

import (
	"bytes"
	"math/rand"
	"slices"
	"testing"

	"loop.example/headrace/impl"
)

// guardedBytes are bytes with room behind their end, and what all of that room holds.
func guardedBytes(s string) ([]byte, []byte) {
	room := append([]byte(s), bytes.Repeat([]byte{0xA5}, 600)...)
	return room[:len(s):len(room)], bytes.Clone(room)
}

// guardedDisk has room behind the end of both of its lists; still tells whether all of that is as it was.
func guardedDisk(s shelf) (d impl.Disk, still func() bool) {
	safe, wantSafe := guardedBytes(s.safe)
	soft, wantSoft := guardedBytes(s.soft)
	d = impl.Disk{Safe: safe, Soft: soft, Fuse: s.fuse, Down: s.down}
	return d, func() bool {
		return bytes.Equal(safe[:cap(safe)], wantSafe) && bytes.Equal(soft[:cap(soft)], wantSoft)
	}
}

// spoilDisk writes into all that a disk has, first into the one list and then into the other, and tells whether either changed the other one.
func spoilDisk(d impl.Disk) bool {
	soft := bytes.Clone(d.Soft[:cap(d.Soft)])
	spoil(d.Safe, 0x5A)
	if !bytes.Equal(d.Soft[:cap(d.Soft)], soft) {
		return false
	}
	spoil(d.Soft, 0x77)
	return !bytes.Contains(d.Safe[:cap(d.Safe)], []byte{0x77})
}

func memoryShelf(r *rand.Rand) shelf {
	if r.Intn(2) == 0 {
		return randomShelf(r)
	}
	all := joined(randomRecs(r, r.Intn(5)))
	if r.Intn(2) == 0 {
		all = all[:r.Intn(len(all)+1)]
	}
	parts := r.Intn(len(all) + 1)
	s := shelf{safe: all[:parts], soft: all[parts:], fuse: r.Intn(20) - 1}
	switch r.Intn(8) {
	case 0:
		return lying(all)
	case 1:
		s.safe, s.soft = joined(slices.Repeat([]impl.Rec{remove("x")}, 200)), ""
	}
	return s
}

// diskCalls are all calls that answer a disk.
func diskCalls(b []byte, rec impl.Rec, n int) []func(impl.Disk) impl.Disk {
	return []func(impl.Disk) impl.Disk{
		func(d impl.Disk) impl.Disk { e, _ := impl.DiskWrite(d, b); return e },
		func(d impl.Disk) impl.Disk { e, _ := impl.DiskSync(d); return e },
		func(d impl.Disk) impl.Disk { e, _ := impl.DiskCut(d, n); return e },
		func(d impl.Disk) impl.Disk { e, _ := impl.DiskFall(d, n); return e },
		func(d impl.Disk) impl.Disk { e, _ := impl.DiskRise(d, n); return e },
		func(d impl.Disk) impl.Disk { e, _ := impl.LogPut(d, rec); return e },
		func(d impl.Disk) impl.Disk { e, _, _ := impl.LogOpen(d); return e },
	}
}

func TestDisksAreNewMemory(t *testing.T) {
	r := rand.New(rand.NewSource(90))
	for range 3000 {
		s := memoryShelf(r)
		b, wantB := guardedBytes(someBytes(r, r.Intn(12)))
		rec, n := randomRec(r), r.Intn(12)
		for i, call := range diskCalls(b, rec, n) {
			d, still := guardedDisk(s)
			first := call(d)
			want := shelfOf(first)
			second := call(d)
			if shelfOf(second) != want || shelfOf(call(s.disk())) != want {
				t.Fatalf("call %d on %v: not always %v", i, s, want)
			}
			if !spoilDisk(second) {
				t.Fatalf("call %d on %v: lists that share memory", i, s)
			}
			if !still() || !bytes.Equal(b[:cap(b)], wantB) {
				t.Fatalf("call %d on %v: its arguments became others", i, s)
			}
			spoilDisk(d)
			spoil(b, 0x11)
			if shelfOf(first) != want {
				t.Fatalf("call %d on %v: an answer that shares memory", i, s)
			}
			copy(b[:cap(b)], wantB)
		}
	}
}

func TestBytesOfDisksAreNewMemory(t *testing.T) {
	r := rand.New(rand.NewSource(91))
	for range 3000 {
		s := memoryShelf(r)
		d, still := guardedDisk(s)
		impl.DiskOk(d)
		first, ok := impl.DiskAll(d)
		second, _ := impl.DiskAll(d)
		spoil(second, 0x5A)
		if !still() || ok && string(first) != s.all() {
			t.Fatalf("%v: bytes that share memory", s)
		}
		_, recs, _ := impl.LogOpen(d)
		want := slices.Clone(recs)
		_, others, _ := impl.LogOpen(d)
		spoil(others, impl.Rec{Kind: 9, Name: "spoilt"})
		spoilDisk(d)
		if !slices.Equal(recs, want) || ok && string(first) != s.all() {
			t.Fatalf("%v: answers that share memory with an argument", s)
		}
	}
}

// guardedRecs are records with room behind their end, and what all of that room holds.
func guardedRecs(l []impl.Rec) ([]impl.Rec, []impl.Rec) {
	room := slices.Clone(l)
	for i := range 20 {
		room = append(room, impl.Rec{Kind: i, Name: "guard", Num: -i, Text: "guard"})
	}
	return room[:len(l):len(room)], slices.Clone(room)
}

func TestRecordsAndLogsAreNewMemory(t *testing.T) {
	r := rand.New(rand.NewSource(92))
	for i := range 3000 {
		l := randomRecs(r, r.Intn(6))
		if i%5 == 0 && len(l) > 0 {
			l[r.Intn(len(l))] = noRecs[r.Intn(len(noRecs))]
		}
		arg, wantArg := guardedRecs(l)
		all, ok := impl.LogBytes(arg)
		want := string(all)
		other, _ := impl.LogBytes(arg)
		spoil(other, 0x5A)
		if again, _ := impl.LogBytes(l); string(again) != want || string(all) != want || !slices.Equal(arg[:cap(arg)], wantArg) {
			t.Fatalf("%v: bytes that share memory", l)
		}
		if !ok {
			continue
		}
		in, wantIn := guardedBytes(want)
		recs, n := impl.LogRead(in)
		first, size, _ := impl.RecRead(in)
		impl.RecSum(in)
		second, _ := impl.LogRead(in)
		spoil(second, impl.Rec{Kind: 9, Name: "spoilt"})
		if !bytes.Equal(in[:cap(in)], wantIn) || n != len(want) || !slices.Equal(recs, l) {
			t.Fatalf("%v is read as %v", l, recs)
		}
		spoil(in, 0x5A)
		if !slices.Equal(recs, l) || size > 0 && first != l[0] {
			t.Fatalf("%v: records that share memory with bytes", l)
		}
		for _, rec := range l {
			one, _ := impl.RecBytes(rec)
			kept := string(one)
			two, _ := impl.RecBytes(rec)
			spoil(two, 0x5A)
			if again, _ := impl.RecBytes(rec); string(one) != kept || string(again) != kept {
				t.Fatalf("%v: bytes that share memory", rec)
			}
		}
	}
}
