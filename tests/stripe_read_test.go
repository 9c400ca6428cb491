package tests

import (
	"slices"
	"strings"
	"testing"

	"loop.example/g00405/impl"
)

// slowPiece is what a sector tells, by its bytes alone: an Epoch below 0 where it is lost.
type slowPiece struct {
	epoch int
	body  string
}

func slowFind(d impl.Disk, at int, least int) slowPiece {
	s := d.Held[at]
	if s == "" {
		s = d.Plate[at]
	}
	if d.Bad[at] || len(s) != 28 {
		return slowPiece{epoch: -1}
	}
	epoch := int(s[3])*256 + int(s[4])
	whole := slowFrame(impl.Frame{Kind: 2, At: at, Epoch: epoch, Body: s[6:22]})
	if s != whole || epoch > 60000 || epoch < least {
		return slowPiece{epoch: -1}
	}
	return slowPiece{epoch, s[6:22]}
}

// slowLook has the pieces of a stripe that fits, and the right Epoch, or -2.
func slowLook(d impl.Disk, at int, least int) ([]slowPiece, int) {
	pieces, times := []slowPiece{}, map[int]int{}
	for k := range 5 {
		p := slowFind(d, at+k, least)
		pieces = append(pieces, p)
		times[p.epoch]++
	}
	for epoch, n := range times {
		if epoch >= 0 && n >= 3 {
			return pieces, epoch // of five no two Epochs have three
		}
	}
	return pieces, -2
}

func slowHealth(d impl.Disk, at int, least int) (impl.Health, bool) {
	if !slowFits(d, at) {
		return impl.Health{}, false
	}
	h := impl.Health{Whole: true}
	pieces, right := slowLook(d, at, least)
	for k, p := range pieces {
		if p.epoch < 0 {
			h.Lost = append(h.Lost, k)
		} else if p.epoch != right {
			h.Stale = append(h.Stale, k)
		}
		h.Whole = h.Whole && p.epoch == right
	}
	return h, true
}

// slowSolved has the block that three pieces with these numbers tell.
func slowSolved(numbers []int, bodies []string) string {
	rows := [][]int{}
	for _, k := range numbers {
		rows = append(rows, slowCode(3, 2)[k])
	}
	data := make([][]int, 3)
	for at := range 16 {
		column := []int{int(bodies[0][at]), int(bodies[1][at]), int(bodies[2][at])}
		for k, a := range slowSolution(rows, column) {
			data[k] = append(data[k], a)
		}
	}
	return bytesFrom(slices.Concat(data...))
}

// slowReadBlock tells the block, the numbers of those that tell nothing, and the right Epoch.
func slowReadBlock(d impl.Disk, at int, least int) (string, []int, int, bool) {
	if !slowFits(d, at) {
		return "", nil, 0, false
	}
	pieces, right := slowLook(d, at, least)
	numbers, bodies, others := []int{}, []string{}, []int{}
	for k, p := range pieces {
		if p.epoch != right {
			others = append(others, k)
		} else if len(numbers) < 3 {
			numbers, bodies = append(numbers, k), append(bodies, p.body)
		}
	}
	if right < 0 {
		return "", nil, 0, false
	}
	block := bodies[0] + bodies[1] + bodies[2]
	if !slices.Equal(numbers, []int{0, 1, 2}) {
		block = slowSolved(numbers, bodies)
	}
	_, ok := textInBlock(block)
	return block, others, right, ok
}

func slowRead(d impl.Disk, at int, least int) (string, []int, bool) {
	block, others, _, ok := slowReadBlock(d, at, least)
	if !ok {
		return "", nil, false
	}
	text, _ := textInBlock(block)
	return text, others, true
}

func slowMend(d impl.Disk, at int, least int) (impl.Disk, int, bool) {
	block, others, epoch, ok := slowReadBlock(d, at, least)
	if !ok {
		return impl.Disk{}, 0, false
	}
	d = cloneDisk(d)
	n := 0
	for _, k := range others {
		if !d.Bad[at+k] {
			d.Held[at+k] = stripeSectors(at, epoch, block)[k]
			n++
		}
	}
	return d, n, true
}

func sameHealth(a impl.Health, b impl.Health) bool {
	return slices.Equal(a.Lost, b.Lost) && slices.Equal(a.Stale, b.Stale) && a.Whole == b.Whole
}

func isHealth(t *testing.T, d impl.Disk, at int, least int, want impl.Health, wantOk bool) {
	t.Helper()
	if h, ok := impl.HealthOf(d, at, least); !sameHealth(h, want) || ok != wantOk {
		t.Fatalf("HealthOf %#v %d %d: %v %v, want %v %v", d, at, least, h, ok, want, wantOk)
	}
}

func isText(t *testing.T, d impl.Disk, at int, least int, want string, others []int, wantOk bool) {
	t.Helper()
	if s, l, ok := impl.ReadStripe(d, at, least); s != want || !slices.Equal(l, others) || ok != wantOk {
		t.Fatalf("ReadStripe %#v %d %d: %q %v %v, want %q %v %v", d, at, least, s, l, ok, want, others, wantOk)
	}
}

func isMended(t *testing.T, d impl.Disk, at int, least int, want impl.Disk, n int, wantOk bool) {
	t.Helper()
	if got, m, ok := impl.MendStripe(d, at, least); !sameDisk(got, want) || m != n || ok != wantOk {
		t.Fatalf("MendStripe %#v %d %d: %#v %d %v, want %#v %d %v", d, at, least, got, m, ok, want, n, wantOk)
	}
}

// checkStripe holds all that is told of a stripe against what its bytes tell.
func checkStripe(t *testing.T, d impl.Disk, at int, least int) {
	t.Helper()
	h, ok := slowHealth(d, at, least)
	isHealth(t, d, at, least, h, ok)
	text, others, ok := slowRead(d, at, least)
	isText(t, d, at, least, text, others, ok)
	mended, n, ok := slowMend(d, at, least)
	isMended(t, d, at, least, mended, n, ok)
}

// checkMended asks that a mended stripe tells the same text, is whole but for bad sectors, and is not mended again.
func checkMended(t *testing.T, d impl.Disk, at int, least int) {
	t.Helper()
	text, others, ok := impl.ReadStripe(d, at, least)
	if !ok {
		isMended(t, d, at, least, impl.Disk{}, 0, false)
		return
	}
	bad := slices.DeleteFunc(slices.Clone(others), func(k int) bool { return !d.Bad[at+k] })
	mended, n, ok := impl.MendStripe(d, at, least)
	if !ok || n != len(others)-len(bad) || !slices.Equal(mended.Plate, d.Plate) || !slices.Equal(mended.Bad, d.Bad) {
		t.Fatalf("%#v %d %d: %#v %d %v", d, at, least, mended, n, ok)
	}
	isText(t, mended, at, least, text, bad, true)
	isHealth(t, mended, at, least, impl.Health{Lost: bad, Whole: len(bad) == 0}, true)
	isMended(t, mended, at, least, mended, 0, true)
	synced, _ := impl.StepDisk(mended, sync())
	isText(t, synced, at, least, text, bad, true)
}

// stripeDisk has a stripe on its Plates, and something else in the sectors beside it.
func stripeDisk(n int, at int, epoch int, block string) impl.Disk {
	d := emptyDisk(n)
	for k := range n {
		d.Plate[k] = textOf(28, k)
	}
	copy(d.Plate[at:], stripeSectors(at, epoch, block))
	return d
}

func TestPromise8WholeStripes(t *testing.T) {
	for n := 5; n <= 24; n++ {
		for at := 0; at+5 <= n; at++ {
			for _, text := range []string{"", "\x00", textOf(at+7, at), textOf(47, n)} {
				d, ok := impl.WriteStripe(emptyDisk(n), at, 9, text)
				if !ok {
					t.Fatal(n, at)
				}
				synced, _ := impl.StepDisk(d, sync())
				for _, x := range []impl.Disk{d, synced, stripeDisk(n, at, 9, slowBlock(text))} {
					isText(t, x, at, 9, text, nil, true)
					isHealth(t, x, at, 9, impl.Health{Whole: true}, true)
					isMended(t, x, at, 9, x, 0, true)
				}
			}
		}
	}
}

func TestPromise8TextsOfAllLengths(t *testing.T) {
	for n := range 48 {
		for _, text := range textsOf(n) {
			d, _ := impl.WriteStripe(emptyDisk(6), 1, 60000, text)
			isText(t, d, 1, 60000, text, nil, true)
			for _, lost := range placeSets(5, 2) {
				x := cloneDisk(d)
				x.Held[1+lost[0]], x.Held[1+lost[1]] = "", "spoilt"
				isText(t, x, 1, 60000, text, lost, true)
				checkMended(t, x, 1, 60000)
			}
		}
	}
}

// losses are the ways in which a sector with a frame of Epoch 7 on its Plate is lost, where least is 7.
func losses() []func(d impl.Disk, at int) {
	frame := func(d impl.Disk, at int, change func(f *impl.Frame)) {
		f := impl.Frame{Kind: 2, At: at, Epoch: 7, Body: d.Plate[at][6:22]}
		change(&f)
		d.Plate[at] = slowFrame(f)
	}
	turned := func(s string, k int) string { return slowRot(s, strings.Repeat("\x00", k)+"\x10") }
	return []func(d impl.Disk, at int){
		func(d impl.Disk, at int) { d.Bad[at] = true },
		func(d impl.Disk, at int) { d.Bad[at], d.Plate[at] = true, "" },
		func(d impl.Disk, at int) { d.Plate[at] = "" },
		func(d impl.Disk, at int) { d.Plate[at] = d.Plate[at][:27] },
		func(d impl.Disk, at int) { d.Plate[at] = turned(d.Plate[at], 6+at%16) },
		func(d impl.Disk, at int) { d.Plate[at] = turned(d.Plate[at], at%28) },
		func(d impl.Disk, at int) { d.Plate[at] = turned(d.Plate[at], 24+at%4) },
		func(d impl.Disk, at int) { d.Held[at] = "held" },
		func(d impl.Disk, at int) { d.Held[at] = turned(d.Plate[at], 6) },
		func(d impl.Disk, at int) { frame(d, at, func(f *impl.Frame) { f.Kind = 1 }) },
		func(d impl.Disk, at int) { frame(d, at, func(f *impl.Frame) { f.Kind = 3 }) },
		func(d impl.Disk, at int) { frame(d, at, func(f *impl.Frame) { f.At = at + 1 }) },
		func(d impl.Disk, at int) { frame(d, at, func(f *impl.Frame) { f.At = at + 256 }) },
		func(d impl.Disk, at int) { frame(d, at, func(f *impl.Frame) { f.Epoch = 6 }) },
		func(d impl.Disk, at int) { frame(d, at, func(f *impl.Frame) { f.Epoch = 0 }) },
		func(d impl.Disk, at int) { frame(d, at, func(f *impl.Frame) { f.Body = f.Body[:15] }) },
		func(d impl.Disk, at int) { frame(d, at, func(f *impl.Frame) { f.Body = "" }) },
		func(d impl.Disk, at int) { d.Plate[at] = slowSector(2, at, 7, 17, d.Plate[at][6:22], "\x00\x00") },
		func(d impl.Disk, at int) { d.Plate[at] = slowSector(2, at, 7, 16, d.Plate[at][6:22], "\x00\x01") },
		func(d impl.Disk, at int) { d.Plate[at] = slowSector(2, at, 60001, 16, d.Plate[at][6:22], "\x00\x00") },
	}
}

// isLost asks what is told of a stripe of Epoch 7 of which just these are lost.
func isLost(t *testing.T, d impl.Disk, at int, text string, lost []int) {
	t.Helper()
	if len(lost) <= 2 {
		isHealth(t, d, at, 7, impl.Health{Lost: lost, Whole: len(lost) == 0}, true)
		isText(t, d, at, 7, text, lost, true)
	} else {
		kept := slices.DeleteFunc(bitsOf(31), func(k int) bool { return slices.Contains(lost, k) })
		isHealth(t, d, at, 7, impl.Health{Lost: lost, Stale: kept}, true)
		isText(t, d, at, 7, "", nil, false)
	}
	checkMended(t, d, at, 7)
}

// Every set of a stripe's sectors is lost in every way, at every place of small disks and of a full one.
func TestPromise8EverySetLost(t *testing.T) {
	for _, x := range [][2]int{{5, 0}, {6, 0}, {6, 1}, {9, 3}, {24, 0}, {24, 11}, {24, 19}} {
		text := textOf(47-x[1], x[0])
		for _, lose := range losses() {
			for set := range 32 {
				d := stripeDisk(x[0], x[1], 7, slowBlock(text))
				for _, k := range bitsOf(set) {
					lose(d, x[1]+k)
				}
				isLost(t, d, x[1], text, bitsOf(set))
				if set%7 == 3 {
					checkStripe(t, d, x[1], 7)
				}
			}
		}
	}
}

func TestPromise8EveryPairOfLosses(t *testing.T) {
	for i, first := range losses() {
		for k, second := range losses() {
			for _, places := range placeSets(5, 2) {
				text := textOf(i+k, i)
				d := stripeDisk(8, 2, 7, slowBlock(text))
				first(d, 2+places[0])
				second(d, 2+places[1])
				isLost(t, d, 2, text, places)
				third := (places[1] + 1) % 5
				if third != places[0] {
					first(d, 2+third)
					isLost(t, d, 2, text, slices.Sorted(slices.Values(append(slices.Clone(places), third))))
				}
			}
		}
	}
}

// Any byte of a sector that rots makes it lost, and the others tell the text.
func TestPromise8AnyByteRots(t *testing.T) {
	text := textOf(30, 4)
	whole, _ := impl.WriteStripe(emptyDisk(5), 0, 7, text)
	whole, _ = impl.StepDisk(whole, sync())
	for at := range 5 {
		for k := range 28 {
			for _, b := range []string{"\x01", "\x80", "\xff"} {
				d, ok := impl.StepDisk(whole, rot(at, strings.Repeat("\x00", k)+b))
				if !ok {
					t.Fatal("not rotten", at, k)
				}
				isText(t, d, 0, 0, text, []int{at}, true)
				mended, n, ok := impl.MendStripe(d, 0, 0)
				synced, _ := impl.StepDisk(mended, sync())
				if n != 1 || !ok || !sameDisk(synced, whole) {
					t.Fatalf("%d %d: %#v %d %v", at, k, mended, n, ok)
				}
			}
		}
	}
}

// Sectors that are Bad stay so; healed they are mended, and the stripe is as it was.
func TestPromise8BadHealedAndMended(t *testing.T) {
	text := textOf(33, 5)
	whole, _ := impl.WriteStripe(emptyDisk(7), 1, 3, text)
	whole, _ = impl.StepDisk(whole, sync())
	for _, lost := range placeSets(5, 2) {
		d, _ := impl.StepDisk(whole, bad(1+lost[0]))
		d, _ = impl.StepDisk(d, bad(1+lost[1]))
		isMended(t, d, 1, 3, d, 0, true)
		one, _ := impl.StepDisk(d, heal(1+lost[1]))
		mended, n, ok := impl.MendStripe(one, 1, 3)
		if n != 1 || !ok {
			t.Fatal(lost, n, ok)
		}
		isHealth(t, mended, 1, 3, impl.Health{Lost: lost[:1]}, true)
		both, _ := impl.StepDisk(mended, heal(1+lost[0]))
		mended, n, ok = impl.MendStripe(both, 1, 3)
		synced, _ := impl.StepDisk(mended, sync())
		if n != 1 || !ok || !sameDisk(synced, whole) {
			t.Fatalf("%v: %#v %d %v", lost, synced, n, ok)
		}
	}
	for _, lost := range placeSets(5, 3) {
		d := cloneDisk(whole)
		for _, k := range lost {
			d.Bad[1+k] = true
		}
		isText(t, d, 1, 3, "", nil, false)
		isMended(t, d, 1, 3, impl.Disk{}, 0, false)
	}
}

// healthOfMix takes for each sector which of the Epochs from 4 on it has, or -1, and tells the right one too, or -2.
func healthOfMix(l []int, least int) (impl.Health, int) {
	right := -2
	for which := max(0, least-4); which < 3; which++ {
		rest := slices.DeleteFunc(slices.Clone(l), func(a int) bool { return a == which })
		if len(rest) <= 2 {
			right = which
		}
	}
	h := impl.Health{Whole: true}
	for k, which := range l {
		if which < 0 || 4+which < least {
			h.Lost = append(h.Lost, k)
		} else if which != right {
			h.Stale = append(h.Stale, k)
		}
		h.Whole = h.Whole && which == right
	}
	return h, right
}

// Each sector has one of three Epochs with a text of its own, or is lost.
func TestPromise8SectorsOfSeveralEpochs(t *testing.T) {
	texts := []string{textOf(47, 1), "", textOf(20, 3)}
	stripes := [][]string{}
	for k, text := range texts {
		stripes = append(stripes, stripeSectors(1, 4+k, slowBlock(text)))
	}
	eachList(5, []int{-1, 0, 1, 2}, func(l []int) {
		d := emptyDisk(7)
		for k, which := range l {
			if which >= 0 {
				d.Plate[1+k] = stripes[which][k]
			}
		}
		for least := 3; least <= 7; least++ {
			h, right := healthOfMix(l, least)
			isHealth(t, d, 1, least, h, true)
			if right >= 0 {
				isText(t, d, 1, least, texts[right], slices.Sorted(slices.Values(slices.Concat(h.Lost, h.Stale))), true)
			} else {
				isText(t, d, 1, least, "", nil, false)
			}
			checkMended(t, d, 1, least)
		}
	})
}

// states are what a sector can be of: Epochs of two texts, Held or not, and some that tell nothing.
func states() []func(d impl.Disk, at int, k int) {
	old, next := stripeSectors(2, 256, slowBlock(textOf(11, 1))), stripeSectors(2, 257, slowBlock(textOf(44, 2)))
	return []func(d impl.Disk, at int, k int){
		func(d impl.Disk, at int, k int) { d.Plate[at] = old[k] },
		func(d impl.Disk, at int, k int) { d.Plate[at], d.Held[at] = old[k], next[k] },
		func(d impl.Disk, at int, k int) { d.Plate[at], d.Held[at] = next[k], old[k] },
		func(d impl.Disk, at int, k int) { d.Plate[at], d.Bad[at] = next[k], true },
		func(d impl.Disk, at int, k int) { d.Plate[at], d.Held[at] = old[k], "no frame" },
		func(d impl.Disk, at int, k int) { d.Plate[at] = next[(k+1)%5] },
	}
}

func TestPromise8EveryStateOfEachSector(t *testing.T) {
	all := states()
	eachList(5, bitsOf(1<<len(all)-1), func(l []int) {
		d := emptyDisk(8)
		for k, which := range l {
			all[which](d, 2+k, k)
		}
		checkStripe(t, d, 2, 256)
		checkMended(t, d, 2, 256)
		isText(t, d, 2, 258, "", nil, false)
	})
}

// What an Epoch is held against is any number.
func TestPromise8LeastEpochs(t *testing.T) {
	for _, epoch := range []int{0, 1, 7, 255, 256, 59999, 60000} {
		d := stripeDisk(6, 1, epoch, slowBlock("text"))
		for _, least := range append(anyFields(), 7, 8, epoch, epoch+1, epoch-1) {
			if epoch >= least {
				isText(t, d, 1, least, "text", nil, true)
				isHealth(t, d, 1, least, impl.Health{Whole: true}, true)
				isMended(t, d, 1, least, d, 0, true)
			} else {
				isText(t, d, 1, least, "", nil, false)
				isHealth(t, d, 1, least, impl.Health{Lost: bitsOf(31)}, true)
				isMended(t, d, 1, least, impl.Disk{}, 0, false)
			}
		}
	}
}

// A stripe that is written anew and of which a crash keeps some is read as it was, or as it was to be: where three are kept at least.
func TestPromise8CrashesBetweenTwoTexts(t *testing.T) {
	first, _ := impl.WriteStripe(emptyDisk(9), 3, 1, "as it was")
	synced, _ := impl.StepDisk(first, sync())
	next, _ := impl.WriteStripe(synced, 3, 2, "as it was to be")
	for set := range 32 {
		kept := []int{}
		for _, k := range bitsOf(set) {
			kept = append(kept, 3+k)
		}
		d, ok := impl.AfterCrash(next, kept)
		if !ok {
			t.Fatal(kept)
		}
		if len(kept) >= 3 {
			isText(t, d, 3, 0, "as it was to be", bitsOf(31-set), true)
			isText(t, d, 3, 2, "as it was to be", bitsOf(31-set), true)
		} else {
			isText(t, d, 3, 0, "as it was", bitsOf(set), true)
			isText(t, d, 3, 2, "", nil, false)
		}
		checkMended(t, d, 3, 0)
		checkMended(t, d, 3, 2)
	}
}

// The right Epoch's pieces tell what no text has: the stripe is healthy, but there is nothing to read or to mend by.
func TestPromise8StripesThatNoTextHas(t *testing.T) {
	for i, block := range notBlocks() {
		d := stripeDisk(5, 0, 7, block)
		isHealth(t, d, 0, 7, impl.Health{Whole: true}, true)
		isText(t, d, 0, 7, "", nil, false)
		isMended(t, d, 0, 7, impl.Disk{}, 0, false)
		lost := placeSets(5, 2)[i%10]
		d.Plate[lost[0]], d.Bad[lost[1]] = "", true
		isHealth(t, d, 0, 7, impl.Health{Lost: lost}, true)
		isText(t, d, 0, 7, "", nil, false)
		isMended(t, d, 0, 7, impl.Disk{}, 0, false)
	}
}

// Where pieces of one Epoch are of two texts the first ones that are there tell, as chapter 3 decodes.
func TestPromise8PiecesOfTwoTextsInOneEpoch(t *testing.T) {
	one, other := stripeSectors(0, 7, slowBlock("one text")), stripeSectors(0, 7, slowBlock(textOf(47, 8)))
	for set := range 32 {
		d := emptyDisk(5)
		copy(d.Plate, one)
		for _, k := range bitsOf(set) {
			d.Plate[k] = other[k]
		}
		for _, lost := range placeSets(5, 2) {
			x := cloneDisk(d)
			checkStripe(t, x, 0, 7)
			x.Plate[lost[0]] = ""
			checkStripe(t, x, 0, 7)
			x.Bad[lost[1]] = true
			checkStripe(t, x, 0, 7)
		}
	}
	d := emptyDisk(5)
	copy(d.Plate, append(one[:3:3], other[3:]...))
	isText(t, d, 0, 7, "one text", nil, true)
	isHealth(t, d, 0, 7, impl.Health{Whole: true}, true)
}

func refusedStripe(t *testing.T, d impl.Disk, at int, least int) {
	t.Helper()
	isHealth(t, d, at, least, impl.Health{}, false)
	isText(t, d, at, least, "", nil, false)
	isMended(t, d, at, least, impl.Disk{}, 0, false)
}

func TestPromise8StripesThatDoNotFit(t *testing.T) {
	for _, n := range []int{5, 6, 12, 24} {
		for _, at := range []int{0, n - 5} {
			d := stripeDisk(n, at, 7, slowBlock("text"))
			for _, other := range append(anyNumbers(), -1, -5, n-4, n-3, n-1, n, n+1) {
				if other < 0 || other > n-5 {
					refusedStripe(t, d, other, 7)
				}
			}
		}
	}
	for n := 1; n < 5; n++ {
		refusedStripe(t, emptyDisk(n), 0, 0)
		refusedStripe(t, fullDisk(n, 1), 0, 0)
	}
}

// A stripe that could be read is not, where the disk is not good, be it far away.
func TestPromise8StripesOfDisksThatAreNot(t *testing.T) {
	for _, d := range notDisks() {
		refusedStripe(t, d, 0, 0)
	}
	whole := stripeDisk(12, 4, 7, slowBlock("text"))
	isText(t, whole, 4, 7, "text", nil, true)
	for k := range 12 {
		long, held, badly := cloneDisk(whole), cloneDisk(whole), cloneDisk(whole)
		long.Plate[k] = textOf(29, k)
		held.Held[k] = textOf(29, k)
		badly.Held[k], badly.Bad[k] = "a", true
		for _, d := range []impl.Disk{long, held, badly} {
			refusedStripe(t, d, 4, 7)
			refusedWrite(t, d, 4, 8, "a")
			if fits, ok := impl.FitsStripe(d, 4); fits || ok {
				t.Error(k, fits, ok)
			}
		}
	}
	for _, d := range []impl.Disk{
		{Plate: whole.Plate, Held: whole.Held[:11], Bad: whole.Bad}, {Plate: whole.Plate, Held: whole.Held, Bad: whole.Bad[:11]}, {Plate: whole.Plate[:11], Held: whole.Held, Bad: whole.Bad},
	} {
		refusedStripe(t, d, 4, 7)
		refusedWrite(t, d, 4, 8, "a")
	}
}
