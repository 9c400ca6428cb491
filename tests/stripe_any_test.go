package tests

import (
	"slices"
	"strings"
	"testing"

	"loop.example/g00405/impl"
)

// stripeDisks have a stripe at 2 that can be read, or not, in many ways.
func stripeDisks() []impl.Disk {
	l := []impl.Disk{}
	all := states()
	for seed := range 80 {
		d := fullDisk(8+seed%17, seed)
		for k := range 5 {
			at := 2 + k
			d.Plate[at], d.Held[at], d.Bad[at] = "", "", false
			which := int(textOf(5, seed)[k]) % 15
			if which >= len(all) {
				which = seed % 2 // so that many have a right Epoch
			}
			all[which](d, at, k)
		}
		l = append(l, d)
	}
	for _, lose := range losses() {
		d := stripeDisk(7, 2, 7, slowBlock("text"))
		lose(d, 3)
		lose(d, 6)
		l = append(l, d)
	}
	return append(l, stripeDisk(24, 2, 7, notBlocks()[0]), stripeDisk(7, 2, 7, slowBlock("")))
}

func anyStripeDisks() []impl.Disk {
	return append(stripeDisks(), anyDisks()...)
}

func TestPromise19StripesOfAnything(t *testing.T) {
	for _, d := range anyStripeDisks() {
		for _, at := range append(anyNumbers(), 5, 6, 18, 19, 20, 21, 23, 24, 25, -5) {
			if fits, ok := impl.FitsStripe(d, at); fits != slowFits(d, at) || ok != isSlowGood(d) {
				t.Fatalf("FitsStripe %#v %d: %v %v", d, at, fits, ok)
			}
			for _, least := range anyFields() {
				checkStripe(t, d, at, least)
			}
		}
	}
}

func TestPromise19WritesOfAnything(t *testing.T) {
	texts := append(anyTexts(), textOf(46, 1), textOf(47, 1), textOf(48, 1), textOf(256, 1), textOf(303, 1))
	for _, d := range anyStripeDisks() {
		for _, at := range []int{-1, 0, 1, 2, 3, 19, 20, 1 << 62, -1 << 63, 1<<63 - 1} {
			for _, text := range texts {
				checkWriteStripe(t, d, at, 7, text)
			}
			for _, epoch := range anyFields() {
				checkWriteStripe(t, d, at, epoch, "text")
			}
		}
	}
}

func anyPieces() [][][]int {
	l := slices.Concat(oddPieces(), notPieces(5), notPieces(3), withNoElement(5, 16), memoryPieces())
	for k, block := range notBlocks() {
		if k%40 == 0 {
			l = append(l, codedBlock(block))
		}
	}
	for n := range 48 {
		l = append(l, slowPieces(textOf(n, n)))
	}
	return append(l, noughtPieces(5, 16), matrixOf(5, 16, 1), make([][]int, 1000), matrixOf(1000, 16, 2))
}

func TestPromise19PiecesOfAnything(t *testing.T) {
	for _, pieces := range anyPieces() {
		want, wantOk := slowText(pieces)
		if s, ok := impl.TextFrom(pieces); s != want || ok != wantOk {
			t.Errorf("TextFrom %v: %q %v, want %q %v", pieces, s, ok, want, wantOk)
		}
	}
	for _, text := range slices.Concat(anyTexts(), anyBodies(), notStripeTexts()) {
		p, ok := impl.PiecesFor(text)
		if ok != (len(text) <= 47) || !ok && len(p) != 0 || ok && !sameMatrix(p, slowPieces(text)) {
			t.Errorf("PiecesFor %q: %v %v", text, p, ok)
		}
	}
}

func TestPromise19PiecesMemory(t *testing.T) {
	for _, pieces := range anyPieces() {
		want, wantOk := impl.TextFrom(slices.Clip(copyMatrix(pieces)))
		for _, behind := range []int{0, 1, -9} {
			h := holdMatrix(pieces, behind)
			if s, ok := impl.TextFrom(h.rows); s != want || ok != wantOk {
				t.Fatalf("TextFrom reads behind %v: %q %v", pieces, s, ok)
			}
			h.stays(t)
		}
	}
	// One piece more lies behind the list, and one element more behind a piece.
	whole := slowPieces("text")
	refusedPieces(t, whole[:4])
	whole[2] = whole[2][:15]
	refusedPieces(t, whole)
}

func TestPromise19PiecesForMemory(t *testing.T) {
	for n := range 50 {
		for _, text := range textsOf(n) {
			h := holdText(text, "behind it")
			want, wantOk := impl.PiecesFor(strings.Clone(text))
			first, ok := impl.PiecesFor(h.text)
			if !sameMatrix(first, want) || ok != wantOk {
				t.Fatalf("PiecesFor reads behind %q: %v %v", text, first, ok)
			}
			spoilRows(t, first)
			if later, _ := impl.PiecesFor(h.text); !sameMatrix(later, want) {
				t.Fatalf("two answers share memory %q: %v", text, later)
			}
			h.stays(t)
		}
	}
}

// Pieces that are one list tell what copies of it tell.
func TestPromise19StripeOfOnePiece(t *testing.T) {
	one := make([]int, 16)
	if s, ok := impl.TextFrom([][]int{one, one, one, one, one}); s != "" || !ok {
		t.Errorf("%q %v", s, ok)
	}
	one[0] = 1
	refusedPieces(t, [][]int{one, one, one, one, one})
	if !slices.Equal(one, append([]int{1}, make([]int, 15)...)) {
		t.Error("written into", one)
	}
}

func TestPromise19WriteStripeMemory(t *testing.T) {
	for _, d := range anyStripeDisks() {
		for _, at := range []int{-1, 0, 2} {
			for _, s := range []string{"", "a", textOf(47, at), textOf(48, at)} {
				text := holdText(s, "behind it")
				checkDiskMemory(t, d, []heldText{text}, func(d impl.Disk) (impl.Disk, bool) { return impl.WriteStripe(d, at, 9, text.text) })
				text.stays(t)
			}
			checkDiskMemory(t, d, nil, func(d impl.Disk) (impl.Disk, bool) { return impl.WriteStripe(d, at, 60001, "a") })
		}
	}
}

func TestPromise19MendStripeMemory(t *testing.T) {
	for _, d := range anyStripeDisks() {
		for _, at := range []int{-1, 0, 2} {
			for _, least := range []int{0, 7, 257} {
				checkDiskMemory(t, d, nil, func(d impl.Disk) (impl.Disk, bool) {
					mended, _, ok := impl.MendStripe(d, at, least)
					return mended, ok
				})
			}
		}
	}
}

func TestPromise19ReadStripeMemory(t *testing.T) {
	for _, d := range anyStripeDisks() {
		for _, behind := range []string{"", "behind"} {
			for _, at := range []int{-1, 0, 2, 3} {
				h := holdDisk(d, behind)
				want, wantOthers, wantOk := impl.ReadStripe(cloneDisk(d), at, 7)
				s, others, ok := impl.ReadStripe(h.disk, at, 7)
				if s != want || !slices.Equal(others, wantOthers) || ok != wantOk {
					t.Fatalf("ReadStripe reads behind %#v %d: %q %v %v", d, at, s, others, ok)
				}
				areNew(t, []string{s}, h.texts()...)
				spoil(others)
				isText(t, h.disk, at, 7, want, wantOthers, wantOk)
				h.stays(t)
			}
		}
	}
}

func TestPromise19HealthMemory(t *testing.T) {
	for _, d := range anyStripeDisks() {
		for _, behind := range []string{"", "behind"} {
			for _, at := range []int{-1, 0, 2, 3} {
				held := holdDisk(d, behind)
				want, wantOk := impl.HealthOf(cloneDisk(d), at, 7)
				h, ok := impl.HealthOf(held.disk, at, 7)
				fits, isGood := impl.FitsStripe(held.disk, at)
				if !sameHealth(h, want) || ok != wantOk || fits != wantOk || isGood != isSlowGood(d) {
					t.Fatalf("reads behind %#v %d: %v %v %v %v", d, at, h, ok, fits, isGood)
				}
				spoil(h.Lost)
				if !slices.Equal(h.Stale, want.Stale) {
					t.Fatal("Lost and Stale share memory", want)
				}
				spoil(h.Stale)
				isHealth(t, held.disk, at, 7, want, wantOk)
				held.stays(t)
			}
		}
	}
}

// Two lists of a disk may be one: what is answered is what it is for copies, and none is written into.
func TestPromise19SharedStripes(t *testing.T) {
	for set := range 32 {
		texts := stripeSectors(0, 7, slowBlock("text"))
		for _, k := range bitsOf(set) {
			texts[k] = ""
		}
		shared := impl.Disk{Plate: texts, Held: texts, Bad: make([]bool, 5)}
		apart := cloneDisk(shared)
		checkStripe(t, shared, 0, 7)
		checkWriteStripe(t, shared, 0, 8, "other")
		mended, _, _ := impl.MendStripe(shared, 0, 7)
		areNew(t, slices.Concat(mended.Plate, mended.Held))
		spoilDisk(t, mended)
		written, _ := impl.WriteStripe(shared, 0, 8, "other")
		spoilDisk(t, written)
		if !sameDisk(shared, apart) {
			t.Fatalf("written into %#v", shared)
		}
	}
}
