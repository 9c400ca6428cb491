package tests

import (
	"slices"
	"testing"

	"loop.example/g00405/impl"
)

// promised follows the steps of a play that are done, and looks at no disk: what was acknowledged, and what is on its way.
type promised struct {
	acked  []int
	coming []int
	epoch  int
	rooted bool
}

func (p promised) after(x impl.JournalStep) promised {
	switch x.Kind {
	case impl.JrPut:
		p.coming = x.Values
	case impl.JrRoot:
		p.rooted = true
	case impl.JrSync:
		if p.rooted {
			return promised{acked: p.coming, epoch: p.epoch + 1}
		}
	case impl.JrCrash:
		if p.rooted && slices.Contains(x.Kept, 0) {
			return promised{acked: p.coming, epoch: p.epoch + 1}
		}
		return promised{acked: p.acked, epoch: p.epoch}
	}
	return p
}

func (p promised) holds(t *testing.T, j impl.Journal) {
	t.Helper()
	if !impl.GoodJournal(j) || !slices.Equal(j.Acked, p.acked) || !slices.Equal(j.Coming, p.coming) || j.Epoch != p.epoch {
		t.Fatalf("%#v, want %+v", j, p)
	}
	for _, kept := range eachSubset(slowHeld(j.Disk)) {
		want := p.after(jrCrash(kept...))
		after, ok := impl.AfterCrash(j.Disk, kept)
		values, epoch, is := impl.RecoverFrom(after)
		if !ok || !is || !slices.Equal(values, want.acked) || epoch != want.epoch {
			t.Fatalf("behind a crash that keeps %v: %#v: %v %d %v, want %+v", kept, j, values, epoch, is, want)
		}
		crashed, ok := impl.StepJournal(j, jrCrash(kept...))
		if !ok || !sameDisk(crashed.Disk, after) || crashed.Phase != 0 || len(crashed.Coming) != 0 || !slices.Equal(crashed.Acked, values) || crashed.Epoch != epoch {
			t.Fatalf("a crash that keeps %v: %#v: %#v %v", kept, j, crashed, ok)
		}
	}
}

// someJournalSteps may be done or not, as the Phase is.
func someJournalSteps() []impl.JournalStep {
	return []impl.JournalStep{
		jrPut(1, 2, 3, 4, 5, 6), jrPut(65535, 0, 256, 255, 1, 32768), jrSync(), jrRoot(),
		jrCrash(), jrCrash(0), jrCrash(1), jrCrash(2), jrCrash(1, 2), jrCrash(3), jrCrash(4), jrCrash(3, 4),
	}
}

// eachWay goes every way of so many steps that are done, and tries all steps behind each.
func eachWay(t *testing.T, deep int, j impl.Journal, p promised) int {
	t.Helper()
	p.holds(t, j)
	ways := 1
	if deep == 0 {
		return ways
	}
	for _, x := range someJournalSteps() {
		if !checkJournalStep(t, j, x) {
			continue
		}
		next := isDone(t, j, x)
		if !sameJournal(next, j) {
			ways += eachWay(t, deep-1, next, p.after(x))
		}
	}
	return ways
}

func TestPromise15EveryWayOfSteps(t *testing.T) {
	if ways := eachWay(t, 9, impl.NewJournal(), promised{acked: noughtState()}); ways < 10000 {
		t.Error("too few ways", ways)
	}
	for _, epoch := range []int{1, 58, 59997, 59998, 59999, 60000} {
		eachWay(t, 5, restingJournal(epoch, stateOf(epoch)), promised{acked: stateOf(epoch), epoch: epoch})
	}
}

func TestPromise15EveryShortJournalPlay(t *testing.T) {
	for n := range 5 {
		l := make([]impl.JournalStep, n)
		steps := someJournalSteps()
		if n == 4 {
			steps = steps[:9]
		}
		numbers := make([]int, len(steps))
		for k := range numbers {
			numbers[k] = k
		}
		eachList(n, numbers, func(which []int) {
			for k, number := range which {
				l[k] = steps[number]
			}
			checkJournalPlay(t, l)
		})
	}
}

// oneRound puts a state, and acknowledges it.
func oneRound(values []int) []impl.JournalStep {
	return []impl.JournalStep{jrPut(values...), jrSync(), jrRoot(), jrSync()}
}

func isPlayedJournal(t *testing.T, l []impl.JournalStep, done []bool, epoch int, phase int, acked []int) impl.Journal {
	t.Helper()
	j, got, ok := impl.PlayJournal(l)
	if !ok || !slices.Equal(got, done) || j.Epoch != epoch || j.Phase != phase || !slices.Equal(j.Acked, acked) {
		t.Errorf("%+v: %#v %v %v", l, j, got, ok)
	}
	return j
}

func allDone(n int) []bool {
	return slices.Repeat([]bool{true}, n)
}

func TestPromise15KnownPlays(t *testing.T) {
	first, second := []int{258, 2, 3, 4, 5, 6}, []int{9, 8, 7, 6, 5, 65535}
	isPlayedJournal(t, nil, nil, 0, 0, noughtState())
	l := oneRound(first)
	for n := range 4 {
		isPlayedJournal(t, l[:n], allDone(n), 0, n, noughtState())
	}
	isPlayedJournal(t, l, allDone(4), 1, 0, first)
	l = append(l, oneRound(second)...)
	for n := range 4 {
		isPlayedJournal(t, l[:4+n], allDone(4+n), 1, n, first)
		isPlayedJournal(t, append(slices.Clone(l[:4+n]), jrCrash()), allDone(5+n), 1, 0, first)
	}
	j := isPlayedJournal(t, l, allDone(8), 2, 0, second)
	want := restingJournal(2, second)
	for k, s := range halfFrames(1, first) {
		want.Disk.Plate[k] = s
	}
	if !sameJournal(j, want) {
		t.Errorf("%#v, want %#v", j, want)
	}
	isPlayedJournal(t, append(slices.Clone(l[:7]), jrCrash(0)), allDone(8), 2, 0, second)
	isPlayedJournal(t, append(slices.Clone(l[:5]), jrCrash(1, 2), jrRoot()), append(allDone(6), false), 1, 0, first)
	isPlayedJournal(t, append(slices.Clone(l[:5]), jrCrash(3)), append(allDone(5), false), 1, 1, first)
	isPlayedJournal(t, []impl.JournalStep{jrRoot(), jrPut(1), jrSync(), jrCrash(0), jrPut(first...), jrPut(second...)}, []bool{false, false, true, false, true, false}, 0, 1, noughtState())
}

// A play goes on behind a crash that kept some of each half: what is put then is whole.
func TestPromise15PlaysGoOnBehindCrashes(t *testing.T) {
	first, lost, second := stateOf(11), stateOf(12), stateOf(13)
	for rounds := range 4 {
		l := []impl.JournalStep{}
		for range rounds {
			l = append(l, oneRound(first)...)
		}
		half := 1 + (rounds+1)%2*2
		before := noughtState()
		if rounds > 0 {
			before = first
		}
		for _, kept := range [][]int{nil, {half}, {half + 1}, {half, half + 1}} {
			for _, again := range [][]int{nil, {half}, {half + 1}, {half, half + 1}} {
				m := append(slices.Clone(l), jrPut(lost...), jrCrash(kept...), jrPut(second...), jrCrash(again...))
				isPlayedJournal(t, m, allDone(len(m)), rounds, 0, before)
				m = append(m, oneRound(second)...)
				isPlayedJournal(t, m, allDone(len(m)), rounds+1, 0, second)
				m = append(m, oneRound(lost)...)
				isPlayedJournal(t, m, allDone(len(m)), rounds+2, 0, lost)
				checkJournalPlay(t, m)
			}
		}
		m := append(slices.Clone(l), jrPut(lost...), jrSync(), jrRoot(), jrCrash(0), jrPut(second...), jrSync(), jrRoot(), jrCrash())
		isPlayedJournal(t, m, allDone(len(m)), rounds+1, 0, lost)
	}
}

// manyJournalSteps fit the Phase mostly.
func manyJournalSteps(long int, seed int) []impl.JournalStep {
	l := []impl.JournalStep{}
	j := restingJournal(0, noughtState())
	any := append(someJournalSteps(), badJournalSteps()...)
	for k := range long {
		which := elementsIn(textOf(3, seed*100+k))
		x := []impl.JournalStep{jrPut(stateOf(which[2])...), jrSync(), jrRoot(), jrSync()}[j.Phase]
		if kept := eachSubset(slowHeld(j.Disk)); which[0]%(5+seed%20) == 1 {
			x = jrCrash(kept[which[1]%len(kept)]...)
		}
		if which[0]%(3+seed%11) == 2 {
			x = any[which[1]%len(any)]
		}
		if next, ok := slowJournalStep(j, x); ok {
			j = next
		}
		l = append(l, x)
	}
	return l
}

func TestPromise15ManyJournalPlays(t *testing.T) {
	most := 0
	for seed := range 400 {
		l := manyJournalSteps(60, seed)
		checkJournalPlay(t, l)
		j, p := impl.NewJournal(), promised{acked: noughtState()}
		for _, x := range l {
			if checkJournalStep(t, j, x) {
				p = p.after(x)
				j = isDone(t, j, x)
				p.holds(t, j)
			}
		}
		played, _, _ := impl.PlayJournal(l)
		if !sameJournal(played, j) {
			t.Fatalf("%+v: %#v, want %#v", l, played, j)
		}
		most = max(most, j.Epoch)
	}
	if most < 8 {
		t.Error("too few were acknowledged", most)
	}
}

func refusedJournalPlay(t *testing.T, l []impl.JournalStep) {
	t.Helper()
	if j, done, ok := impl.PlayJournal(l); !isNoJournal(j) || len(done) != 0 || ok {
		t.Errorf("%d steps: %#v %v %v", len(l), j, done, ok)
	}
}

func TestPromise15HowManyJournalSteps(t *testing.T) {
	l := []impl.JournalStep{}
	for k := range 16 {
		l = append(l, oneRound(stateOf(k))...)
	}
	for n := range 61 {
		acked := noughtState()
		if n >= 4 {
			acked = stateOf(n/4 - 1)
		}
		isPlayedJournal(t, l[:n], allDone(n), n/4, n%4, acked)
	}
	for n := 61; n <= 64; n++ {
		refusedJournalPlay(t, l[:n])
	}
	for _, x := range []impl.JournalStep{{}, jrSync(), jrRoot(), jrCrash(), jrPut(1)} {
		checkJournalPlay(t, slices.Repeat([]impl.JournalStep{x}, 60))
		for _, n := range []int{61, 62, 120, 256 + 60, 1 << 16} {
			refusedJournalPlay(t, slices.Repeat([]impl.JournalStep{x}, n))
		}
	}
}

// A step that is not done leaves the play as it was, wherever it stands.
func TestPromise15StepsThatAreRefusedChangeNothing(t *testing.T) {
	l := slices.Concat(oneRound(stateOf(1)), oneRound(stateOf(2))[:3])
	want, _, _ := impl.PlayJournal(l)
	for _, x := range badJournalSteps() {
		for at := range len(l) + 1 {
			done := slices.Insert(allDone(len(l)), at, false)
			j, got, ok := impl.PlayJournal(slices.Insert(slices.Clone(l), at, x))
			if !sameJournal(j, want) || !slices.Equal(got, done) || !ok {
				t.Fatalf("%d %+v: %#v %v %v", at, x, j, got, ok)
			}
		}
	}
}
