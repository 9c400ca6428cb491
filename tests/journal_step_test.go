package tests

import (
	"math"
	"slices"
	"testing"

	"loop.example/g00405/impl"
)

func jrPut(values ...int) impl.JournalStep {
	return impl.JournalStep{Kind: impl.JrPut, Values: values}
}

func jrSync() impl.JournalStep {
	return impl.JournalStep{Kind: impl.JrSync}
}

func jrRoot() impl.JournalStep {
	return impl.JournalStep{Kind: impl.JrRoot}
}

func jrCrash(kept ...int) impl.JournalStep {
	return impl.JournalStep{Kind: impl.JrCrash, Kept: kept}
}

func cloneJournal(j impl.Journal) impl.Journal {
	return impl.Journal{Disk: cloneDisk(j.Disk), Epoch: j.Epoch, Phase: j.Phase, Acked: slices.Clone(j.Acked), Coming: slices.Clone(j.Coming)}
}

func sameJournal(a impl.Journal, b impl.Journal) bool {
	return sameDisk(a.Disk, b.Disk) && a.Epoch == b.Epoch && a.Phase == b.Phase && slices.Equal(a.Acked, b.Acked) && slices.Equal(a.Coming, b.Coming)
}

func isNoJournal(j impl.Journal) bool {
	return isNoDisk(j.Disk) && j.Epoch == 0 && j.Phase == 0 && len(j.Acked) == 0 && len(j.Coming) == 0
}

func withoutHeld(d impl.Disk) impl.Disk {
	return impl.Disk{Plate: slices.Clone(d.Plate), Held: make([]string, len(d.Held)), Bad: slices.Clone(d.Bad)}
}

func isSlowJournal(j impl.Journal) bool {
	if !isSlowGood(j.Disk) || slices.Contains(j.Disk.Bad, true) || j.Phase < 0 || j.Phase > 3 {
		return false
	}
	if j.Phase == 0 && len(j.Coming) != 0 || j.Phase != 0 && !isSlowState(j.Coming) {
		return false
	}
	values, epoch, ok := slowRecover(withoutHeld(j.Disk))
	return ok && epoch == j.Epoch && slices.Equal(values, j.Acked)
}

// slowJournalStep writes the frames by themselves, and looks in the end whether the journal is a good one.
func slowJournalStep(j impl.Journal, x impl.JournalStep) (impl.Journal, bool) {
	if !isSlowJournal(j) || x.Kind != 1 && len(x.Values) > 0 || x.Kind != 4 && len(x.Kept) > 0 {
		return impl.Journal{}, false
	}
	next, ok := cloneJournal(j), false
	switch x.Kind {
	case 1:
		if ok = j.Phase == 0 && j.Epoch < 60000 && isSlowState(x.Values); ok {
			next.Coming, next.Phase = slices.Clone(x.Values), 1
			for k, s := range halfFrames(j.Epoch+1, x.Values) {
				next.Disk.Held[k] = s
			}
		}
	case 2:
		next.Disk, ok = slowStep(j.Disk, sync())
		switch j.Phase {
		case 1:
			next.Phase = 2
		case 3:
			next.Phase, next.Acked, next.Epoch, next.Coming = 0, next.Coming, j.Epoch+1, nil
		}
	case 3:
		if ok = j.Phase == 2 && j.Epoch < 60000; ok {
			next.Phase, next.Disk.Held[0] = 3, rootFrame(j.Epoch+1)
		}
	case 4:
		if next.Disk, ok = slowStep(j.Disk, crash(x.Kept...)); ok {
			next.Acked, next.Epoch, ok = slowRecover(next.Disk)
			next.Phase, next.Coming = 0, nil
		}
	}
	if !ok || !isSlowJournal(next) {
		return impl.Journal{}, false
	}
	return next, true
}

func slowJournalPlay(l []impl.JournalStep) (impl.Journal, []bool) {
	j := restingJournal(0, noughtState())
	done := make([]bool, len(l))
	for k, x := range l {
		if next, ok := slowJournalStep(j, x); ok {
			j, done[k] = next, true
		}
	}
	return j, done
}

func checkJournalStep(t *testing.T, j impl.Journal, x impl.JournalStep) bool {
	t.Helper()
	want, wantOk := slowJournalStep(j, x)
	got, ok := impl.StepJournal(j, x)
	if !sameJournal(got, want) || ok != wantOk {
		t.Fatalf("StepJournal %#v %+v: %#v %v, want %#v %v", j, x, got, ok, want, wantOk)
	}
	return ok
}

func checkJournalPlay(t *testing.T, l []impl.JournalStep) {
	t.Helper()
	want, wantDone := slowJournalPlay(l)
	if j, done, ok := impl.PlayJournal(l); !sameJournal(j, want) || !slices.Equal(done, wantDone) || !ok {
		t.Fatalf("PlayJournal %+v: %#v %v %v, want %#v %v", l, j, done, ok, want, wantDone)
	}
}

func refusedJournalStep(t *testing.T, j impl.Journal, x impl.JournalStep) {
	t.Helper()
	if next, ok := impl.StepJournal(j, x); !isNoJournal(next) || ok {
		t.Errorf("StepJournal %#v %+v: %#v %v", j, x, next, ok)
	}
}

// isDone asks for a step that is done, and for what it makes.
func isDone(t *testing.T, j impl.Journal, x impl.JournalStep) impl.Journal {
	t.Helper()
	next, ok := impl.StepJournal(j, x)
	if !ok || !impl.GoodJournal(next) {
		t.Fatalf("StepJournal %#v %+v: %#v %v", j, x, next, ok)
	}
	return next
}

func restingJournal(epoch int, values []int) impl.Journal {
	return impl.Journal{Disk: stateDisk(epoch, values), Epoch: epoch, Acked: slices.Clone(values)}
}

// journalIn has a state, and another one on its way as far as the Phase says.
func journalIn(phase int, epoch int, values []int, coming []int) impl.Journal {
	j := restingJournal(epoch, values)
	if j.Phase = phase; phase == 0 {
		return j
	}
	j.Coming = slices.Clone(coming)
	for k, s := range halfFrames(epoch+1, coming) {
		if phase == 1 {
			j.Disk.Held[k] = s
		} else {
			j.Disk.Plate[k] = s
		}
	}
	if phase == 3 {
		j.Disk.Held[0] = rootFrame(epoch + 1)
	}
	return j
}

func TestPromise15NewJournals(t *testing.T) {
	j := impl.NewJournal()
	if !sameJournal(j, restingJournal(0, noughtState())) || !impl.GoodJournal(j) {
		t.Fatalf("%#v", j)
	}
	if want := slowFrame(impl.Frame{Kind: 4}); j.Disk.Plate[0] != want {
		t.Errorf("%x, want %x", j.Disk.Plate[0], want)
	}
	for k := 1; k <= 2; k++ {
		if want := slowFrame(impl.Frame{Kind: 3, At: k, Body: "\x00\x00\x00\x00\x00\x00"}); j.Disk.Plate[k] != want {
			t.Errorf("%d: %x, want %x", k, j.Disk.Plate[k], want)
		}
	}
	if j.Disk.Plate[3] != "" || j.Disk.Plate[4] != "" || len(slowHeld(j.Disk)) != 0 || len(j.Disk.Plate) != 5 {
		t.Errorf("%#v", j.Disk)
	}
	recovers(t, j.Disk, noughtState(), 0)
}

// The steps by which a state is acknowledged, at even and odd epochs.
func TestPromise15KnownSteps(t *testing.T) {
	for _, epoch := range []int{0, 1, 2, 255, 256, 59998, 59999} {
		for _, coming := range [][]int{{258, 2, 3, 4, 5, 6}, slices.Repeat([]int{65535}, 6), noughtState()} {
			acked := stateOf(epoch)
			j := restingJournal(epoch, acked)
			for phase, x := range []impl.JournalStep{jrPut(coming...), jrSync(), jrRoot()} {
				j = isDone(t, j, x)
				if !sameJournal(j, journalIn(phase+1, epoch, acked, coming)) {
					t.Fatalf("%d %v: %#v", epoch, x, j)
				}
			}
			j = isDone(t, j, jrSync())
			want := restingJournal(epoch+1, coming)
			for k, s := range halfFrames(epoch, acked) {
				want.Disk.Plate[k] = s
			}
			if !sameJournal(j, want) {
				t.Fatalf("%d: %#v, want %#v", epoch, j, want)
			}
			recovers(t, j.Disk, coming, epoch+1)
		}
	}
}

// A step that does not fit the Phase, and a sync that has nothing to do.
func TestPromise15StepsInEachPhase(t *testing.T) {
	now, coming := stateOf(5), stateOf(6)
	for _, epoch := range []int{0, 1, 59999} {
		for phase := range 4 {
			j := journalIn(phase, epoch, now, coming)
			if !impl.GoodJournal(j) {
				t.Fatalf("not good %#v", j)
			}
			if checkJournalStep(t, j, jrPut(coming...)) != (phase == 0) || checkJournalStep(t, j, jrRoot()) != (phase == 2) {
				t.Error(epoch, phase)
			}
			if !checkJournalStep(t, j, jrSync()) || !checkJournalStep(t, j, jrCrash()) {
				t.Error(epoch, phase)
			}
			if still := isDone(t, j, jrSync()); phase%2 == 0 && !sameJournal(still, j) {
				t.Errorf("%d %d: %#v", epoch, phase, still)
			}
			if back := isDone(t, j, jrCrash()); back.Phase != 0 || len(back.Coming) != 0 || !slices.Equal(back.Acked, now) || back.Epoch != epoch {
				t.Errorf("%d %d: %#v", epoch, phase, back)
			}
		}
		after := isDone(t, journalIn(3, epoch, now, coming), jrCrash(0))
		if !slices.Equal(after.Acked, coming) || after.Epoch != epoch+1 || after.Phase != 0 || len(after.Coming) != 0 {
			t.Errorf("%d: %#v", epoch, after)
		}
	}
}

// The last epoch: what would be one more is not done.
func TestPromise15LastEpochs(t *testing.T) {
	acked, coming := stateOf(7), stateOf(8)
	for phase := range 4 {
		j := restingJournal(60000, acked)
		if j.Phase = phase; phase > 0 {
			j.Coming = slices.Clone(coming)
		}
		if !impl.GoodJournal(j) {
			t.Fatalf("not good %#v", j)
		}
		refusedJournalStep(t, j, jrPut(coming...))
		refusedJournalStep(t, j, jrRoot())
		if _, ok := impl.StepJournal(j, jrSync()); ok != (phase < 3) {
			t.Error(phase, ok)
		}
		checkJournalStep(t, j, jrSync())
		checkJournalStep(t, j, jrCrash())
		j.Disk.Held[0] = slowSector(4, 0, 60001, 0, padded(""), "\x00\x00")
		for _, x := range []impl.JournalStep{jrSync(), jrCrash(), jrCrash(0), jrRoot(), jrPut(coming...)} {
			checkJournalStep(t, j, x)
		}
		refusedJournalStep(t, j, jrCrash(0))
		refusedJournalStep(t, j, jrSync())
	}
	j := restingJournal(59998, acked)
	for epoch := 59999; epoch <= 60000; epoch++ {
		for _, x := range []impl.JournalStep{jrPut(stateOf(epoch)...), jrSync(), jrRoot(), jrSync()} {
			j = isDone(t, j, x)
		}
		if j.Epoch != epoch || !slices.Equal(j.Acked, stateOf(epoch)) {
			t.Errorf("%#v", j)
		}
	}
	refusedJournalStep(t, j, jrPut(coming...))
}

// badJournalSteps are done in no journal.
func badJournalSteps() []impl.JournalStep {
	l := []impl.JournalStep{{}, {Values: stateOf(1)}, {Kind: 5}, {Kind: 5, Values: stateOf(1)}, {Kind: -1, Kept: []int{0}}, {Kind: 257, Values: stateOf(1)}, {Kind: 1<<32 + 2}, {Kind: math.MinInt}, {Kind: math.MaxInt}}
	for _, values := range notStates() {
		l = append(l, jrPut(values...))
	}
	for _, kept := range [][]int{{0}, {1}, {3}, {3, 4}, {-1}, {5}} {
		l = append(l, impl.JournalStep{Kind: 1, Values: stateOf(2), Kept: kept}, impl.JournalStep{Kind: 2, Kept: kept}, impl.JournalStep{Kind: 3, Kept: kept})
	}
	for _, values := range [][]int{{0}, noughtState(), stateOf(3), {-1}} {
		for kind := 2; kind <= 4; kind++ {
			l = append(l, impl.JournalStep{Kind: kind, Values: values})
		}
		l = append(l, impl.JournalStep{Kind: 4, Values: values, Kept: []int{0}})
	}
	for _, kept := range [][]int{{-1}, {5}, {0, 0}, {1, 0}, {4, 3}, {2, 1}, {3, 4, 4}, {3, 4, 5}, {0, 1, 2, 3, 4}, {math.MinInt}, {math.MaxInt}, make([]int, 100)} {
		l = append(l, jrCrash(kept...))
	}
	return l
}

func TestPromise15StepsThatAreNot(t *testing.T) {
	for _, epoch := range []int{0, 1, 59999} {
		for phase := range 4 {
			j := journalIn(phase, epoch, stateOf(1), stateOf(2))
			for _, x := range badJournalSteps() {
				refusedJournalStep(t, j, x)
			}
			for n := range 4 {
				eachList(n, []int{0, 1, 2, 3, 4}, func(kept []int) {
					if isKept := isSlowKept(j.Disk, kept); checkJournalStep(t, j, jrCrash(kept...)) != isKept {
						t.Fatal(phase, epoch, kept, isKept)
					}
				})
			}
			// An empty list is none.
			for kind := range 6 {
				checkJournalStep(t, j, impl.JournalStep{Kind: kind, Values: []int{}, Kept: []int{}})
			}
			checkJournalStep(t, j, impl.JournalStep{Kind: impl.JrPut, Values: stateOf(9), Kept: []int{}})
		}
	}
}

// notJournals are not good for one reason each.
func notJournals() []impl.Journal {
	l := []impl.Journal{{}, {Disk: emptyDisk(5)}, {Disk: emptyDisk(5), Acked: noughtState()}}
	for phase := range 4 {
		for _, epoch := range []int{0, 1, 6} {
			good := journalIn(phase, epoch, stateOf(1), stateOf(2))
			spoil := func(spoil func(j *impl.Journal)) {
				j := cloneJournal(good)
				spoil(&j)
				l = append(l, j)
			}
			for _, n := range []int{-1, 4, 5, 256, 1 << 32, math.MinInt, math.MaxInt} {
				spoil(func(j *impl.Journal) { j.Phase = n })
			}
			for _, n := range append(notEpochs(), epoch+1, epoch+2, epoch-1, epoch-2, 60000) {
				spoil(func(j *impl.Journal) { j.Epoch = n })
			}
			for _, values := range append(notStates(), stateOf(2), stateOf(3)) {
				spoil(func(j *impl.Journal) { j.Acked = values })
				if isSlowState(values) == (phase == 0) && len(values) > 0 {
					spoil(func(j *impl.Journal) { j.Coming = values })
				}
			}
			if phase > 0 {
				spoil(func(j *impl.Journal) { j.Phase = 0 })
				spoil(func(j *impl.Journal) { j.Coming = nil })
			} else {
				spoil(func(j *impl.Journal) { j.Phase = 1 })
				spoil(func(j *impl.Journal) { j.Coming = []int{0} })
			}
			for k := range 6 {
				spoil(func(j *impl.Journal) { j.Acked[k] ^= 1 })
				spoil(func(j *impl.Journal) { j.Acked[k] += 65536 })
			}
			for k := range 5 {
				spoil(func(j *impl.Journal) { j.Disk.Held[k], j.Disk.Bad[k] = "", true })
				spoil(func(j *impl.Journal) { j.Disk.Bad[k], j.Disk.Held[k] = true, "x" })
				spoil(func(j *impl.Journal) { j.Disk.Held[k] = textOf(29, k) })
			}
			for _, d := range slices.Concat(spoiltDisks(epoch, stateOf(1)), notJournalDisks()) {
				spoil(func(j *impl.Journal) { j.Disk = d })
			}
			// What is Held does not count, though it would tell just this.
			spoil(func(j *impl.Journal) { j.Disk.Held[0], j.Disk.Plate[0] = j.Disk.Plate[0], "" })
		}
	}
	return l
}

func TestPromise15JournalsThatAreNotGood(t *testing.T) {
	for _, j := range notJournals() {
		if impl.GoodJournal(j) || isSlowJournal(j) {
			t.Fatalf("good %#v", j)
		}
		for _, x := range []impl.JournalStep{jrPut(stateOf(1)...), jrSync(), jrRoot(), jrCrash(), jrCrash(0)} {
			refusedJournalStep(t, j, x)
		}
	}
}

// oddJournals are good ones that no play makes: anything may be Held, and what is on its way may be nowhere.
func oddJournals() []impl.Journal {
	l := []impl.Journal{}
	for _, epoch := range []int{0, 1, 59999, 60000} {
		acked, coming := stateOf(1), stateOf(2)
		for seed := range 160 {
			which := elementsIn(textOf(40, seed))
			j := restingJournal(epoch, acked)
			if j.Phase = which[0] % 4; j.Phase > 0 {
				j.Coming = [][]int{coming, stateOf(3), acked}[which[1]%3]
			}
			body := textOf(max(0, which[2]%34-17), seed)
			j.Disk.Plate[0] = rootWith(epoch, body)
			next := map[int]string{0: slowSector(4, 0, epoch+1, len(body), padded(body), "\x00\x00")}
			if epoch < 60000 {
				for k, s := range halfFrames(epoch+1, coming) {
					next[k] = s
				}
			}
			for k := range 5 {
				old := j.Disk.Plate[k]
				if old == "" {
					j.Disk.Plate[k] = []string{"", "x", next[k], next[k]}[which[10+k]%4]
				}
				j.Disk.Held[k] = []string{"", "", "x", next[k], next[k], next[k], old, halfFrames(epoch, stateOf(4))[k]}[which[20+k]%8]
			}
			l = append(l, j)
		}
	}
	return l
}

func TestPromise15OddJournals(t *testing.T) {
	done, refused := [5]int{}, [5]int{}
	for _, j := range oddJournals() {
		if !impl.GoodJournal(j) || !isSlowJournal(j) {
			t.Fatalf("not good %#v", j)
		}
		l := []impl.JournalStep{jrPut(stateOf(9)...), jrSync(), jrRoot()}
		for _, kept := range eachSubset(slowHeld(j.Disk)) {
			l = append(l, jrCrash(kept...))
		}
		for _, x := range append(l, jrCrash(0), jrCrash(3, 4)) {
			if checkJournalStep(t, j, x) {
				done[x.Kind]++
			} else {
				refused[x.Kind]++
			}
		}
	}
	if slices.Min(done[1:]) < 50 || slices.Min(refused[1:]) < 50 {
		t.Error("too few of a kind", done, refused)
	}
}
