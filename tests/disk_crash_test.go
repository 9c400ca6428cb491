package tests

import (
	"slices"
	"testing"

	"loop.example/g00405/impl"
)

// ledger keeps for each sector what has to be read of it behind a crash, and what is on its way.
type ledger struct {
	synced []string
	coming []string
}

func newLedger(n int) ledger {
	return ledger{make([]string, n), make([]string, n)}
}

func (b ledger) land(kept []int) {
	for k, s := range b.coming {
		if s != "" && slices.Contains(kept, k) {
			b.synced[k] = s
		}
		b.coming[k] = ""
	}
}

// follow writes down a write, a sync or a crash that was done.
func (b ledger) follow(x impl.DiskStep) {
	switch x.Kind {
	case impl.DkWrite:
		b.coming[x.At] = x.Text
	case impl.DkSync:
		b.land(bitsOf(1<<len(b.coming) - 1))
	case impl.DkCrash:
		b.land(x.Kept)
	}
}

// holds asks what is read behind a crash that keeps just these.
func (b ledger) holds(t *testing.T, d impl.Disk, kept []int) {
	t.Helper()
	after, ok := impl.AfterCrash(d, kept)
	if !ok || !impl.GoodDisk(after) {
		t.Fatalf("AfterCrash %#v %v: %#v %v", d, kept, after, ok)
	}
	for k, want := range b.synced {
		if slices.Contains(kept, k) {
			want = b.coming[k]
		}
		if s, ok := impl.ReadSector(after, k); s != want || !ok {
			t.Fatalf("%#v %v: sector %d is %#v, synced was %#v", d, kept, k, s, want)
		}
	}
	if l, ok := impl.HeldIn(after); len(l) != 0 || !ok {
		t.Fatal("Held behind a crash", l, ok)
	}
}

// behindEachCrash plays steps that are all done, and tries crashes that keep any of what is Held behind each.
func behindEachCrash(t *testing.T, n int, l []impl.DiskStep, crashes func(held []int) [][]int) {
	t.Helper()
	d, _ := impl.NewDisk(n)
	b := newLedger(n)
	for k, x := range l {
		next, ok := impl.StepDisk(d, x)
		if !ok {
			return
		}
		d = next
		b.follow(x)
		held, _ := impl.HeldIn(d)
		for _, kept := range crashes(held) {
			b.holds(t, d, kept)
		}
		if played, _, ok := impl.PlayDisk(n, l[:k+1]); !ok || !sameDisk(played, d) {
			t.Fatalf("PlayDisk %+v: %#v, steps %#v", l[:k+1], played, d)
		}
	}
}

func eachSubset(held []int) [][]int {
	l := [][]int{}
	for set := range 1 << len(held) {
		kept := []int{}
		for _, k := range bitsOf(set) {
			kept = append(kept, held[k])
		}
		l = append(l, kept)
	}
	return l
}

func TestPromise7SyncedIsReadBehindAnyCrash(t *testing.T) {
	steps := []impl.DiskStep{write(0, "ab"), write(0, "c"), write(1, "ab"), sync(), crash(), crash(0), crash(1), crash(0, 1)}
	eachPlay(5, steps, func(l []impl.DiskStep) { behindEachCrash(t, 2, l, eachSubset) })
}

// quietSteps are writes, syncs and crashes that can all be done.
func quietSteps(n int, seed int) []impl.DiskStep {
	l := []impl.DiskStep{}
	d := emptyDisk(n)
	for _, x := range manySteps(n, 80, seed) {
		next, ok := slowStep(d, x)
		if ok && x.Kind <= impl.DkCrash {
			d = next
			l = append(l, x)
		}
	}
	return l
}

func TestPromise7LongSyncsAndCrashes(t *testing.T) {
	for seed := range 40 {
		behindEachCrash(t, 1, quietSteps(1, seed), eachSubset)
		behindEachCrash(t, 5, quietSteps(5, seed), eachSubset)
		behindEachCrash(t, 24, quietSteps(24, seed), someKept)
	}
}

// All sectors are synced, all written over, and each crash keeps some.
func TestPromise7FullDiskBehindCrashes(t *testing.T) {
	for _, n := range []int{1, 2, 12, 24} {
		l := []impl.DiskStep{}
		for k := range n {
			l = append(l, write(k, textOf(28, k)))
		}
		l = append(l, sync())
		for k := range n {
			l = append(l, write(k, textOf(1+k, k+50)))
		}
		behindEachCrash(t, n, l, someKept)
		behindEachCrash(t, n, append(l, sync(), sync(), crash()), someKept)
		if d, done, ok := impl.PlayDisk(n, l); !ok || slices.Contains(done, false) || len(slowHeld(d)) != n {
			t.Error(n, d, done, ok)
		}
	}
}

// A disk that was not made here keeps what is on its Plate, also where it is Bad.
func TestPromise7PlatesBehindAnyCrash(t *testing.T) {
	for _, d := range someDisks() {
		for _, kept := range someKept(slowHeld(d)) {
			after, ok := impl.AfterCrash(d, kept)
			for k := range d.Plate {
				if !ok || after.Bad[k] != d.Bad[k] || !slices.Contains(kept, k) && after.Plate[k] != d.Plate[k] {
					t.Fatalf("%#v %v: %#v %v", d, kept, after, ok)
				}
			}
			again, ok := impl.AfterCrash(after, nil)
			if !ok || !sameDisk(again, after) {
				t.Fatalf("a second crash: %#v %#v %v", after, again, ok)
			}
		}
		synced, ok := impl.StepDisk(d, sync())
		if all, is := impl.AfterCrash(d, slowHeld(d)); !ok || !is || !sameDisk(all, synced) {
			t.Fatalf("a sync and a crash that keeps all: %#v %#v", synced, all)
		}
	}
}
