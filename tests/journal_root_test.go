package tests

import (
	"slices"
	"strings"
	"testing"

	"loop.example/g00405/impl"
)

// withRootBody puts a Body into each root that a journal has.
func withRootBody(j impl.Journal, body string) impl.Journal {
	j = cloneJournal(j)
	j.Disk.Plate[0] = rootWith(j.Epoch, body)
	if j.Disk.Held[0] != "" {
		j.Disk.Held[0] = rootWith(j.Epoch+1, body)
	}
	return j
}

// A root is one by its Kind, its place and its Epoch: its Body is not asked for.
func TestPromise15RootsWithABody(t *testing.T) {
	for _, body := range someBodies() {
		for _, epoch := range someEpochs() {
			values := stateOf(epoch)
			root := rootWith(epoch, body)
			if _, code, ok := impl.CheckFrame(root, 4, 0, 0); code != impl.FrOk || !ok {
				t.Fatalf("%q: %d %v", body, code, ok)
			}
			d := stateDisk(epoch, values)
			d.Plate[0] = root
			recovers(t, d, values, epoch)
			d.Plate[0] = "not a root"
			notRecovered(t, d)
			d.Held[0] = root
			recovers(t, d, values, epoch)
			d.Held[0], d.Plate[0], d.Bad[0] = "", root, true
			notRecovered(t, d)
		}
	}
}

// Though its Body does not matter, it has to be one of a good frame.
func TestPromise15RootsWithAFaultInTheirBody(t *testing.T) {
	for n := range 40 {
		body := textOf(min(n, 16), n)
		whole := stateDisk(5, stateOf(n))
		for k := range 16 {
			d := cloneDisk(whole)
			d.Plate[0] = slowRot(rootWith(5, body), strings.Repeat("\x00", 6+k)+"\x20")
			notRecovered(t, d)
		}
		if n > 16 {
			whole.Plate[0] = slowSector(4, 0, 5, n, body, "\x00\x00")
			notRecovered(t, whole)
		}
	}
}

func TestPromise15JournalsOfRootsWithABody(t *testing.T) {
	for _, body := range []string{"x", "\x00", textOf(15, 1), textOf(16, 2)} {
		for _, epoch := range []int{0, 1, 58, 59999} {
			acked, coming := stateOf(epoch), stateOf(epoch+1)
			for phase := range 4 {
				j := withRootBody(journalIn(phase, epoch, acked, coming), body)
				if !impl.GoodJournal(j) {
					t.Fatalf("not good %#v", j)
				}
				for _, x := range someJournalSteps() {
					checkJournalStep(t, j, x)
				}
				if back := isDone(t, j, jrCrash()); back.Epoch != epoch || back.Phase != 0 || !slices.Equal(back.Acked, acked) {
					t.Errorf("%#v", back)
				}
			}
			j := withRootBody(journalIn(3, epoch, acked, coming), body)
			for _, x := range []impl.JournalStep{jrSync(), jrCrash(0)} {
				if next := isDone(t, j, x); next.Epoch != epoch+1 || next.Phase != 0 || !slices.Equal(next.Acked, coming) {
					t.Errorf("%v: %#v", x, next)
				}
			}
		}
	}
}

// What a journal writes itself has no Body, whatever the root before it had.
func TestPromise15RootsAreWrittenWithoutABody(t *testing.T) {
	j := withRootBody(restingJournal(3, stateOf(1)), "x")
	for _, x := range oneRound(stateOf(2)) {
		j = isDone(t, j, x)
	}
	if j.Disk.Plate[0] != rootFrame(4) || impl.NewJournal().Disk.Plate[0] != rootFrame(0) {
		t.Errorf("%q", j.Disk.Plate[0])
	}
}
