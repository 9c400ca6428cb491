package tests

import (
	"math"
	"slices"
	"strings"
	"testing"

	"loop.example/g00405/impl"
)

// goodJournals stand in each Phase, at even and odd epochs.
func goodJournals() []impl.Journal {
	l := []impl.Journal{impl.NewJournal()}
	for phase := range 4 {
		for _, epoch := range []int{0, 1, 58, 59999} {
			l = append(l, journalIn(phase, epoch, stateOf(epoch), stateOf(phase)))
		}
	}
	l = append(l, restingJournal(60000, stateOf(1)))
	for phase := range 4 {
		l = append(l, withRootBody(journalIn(phase, 7, stateOf(2), stateOf(phase)), "a root's Body"))
	}
	return l
}

// mixedJournals have fields of one and of another journal.
func mixedJournals() []impl.Journal {
	from := slices.Concat(goodJournals(), oddJournals()[:20], []impl.Journal{{}, {Disk: emptyDisk(24), Epoch: math.MinInt, Phase: math.MaxInt, Acked: []int{math.MinInt}, Coming: make([]int, 100)}})
	l := []impl.Journal{}
	for seed := range 300 {
		which := elementsIn(textOf(5, seed))
		pick := func(k int) impl.Journal { return from[which[k]%len(from)] }
		l = append(l, impl.Journal{Disk: pick(0).Disk, Epoch: pick(1).Epoch, Phase: pick(2).Phase, Acked: pick(3).Acked, Coming: pick(4).Coming})
	}
	return l
}

func anyJournals() []impl.Journal {
	l := slices.Concat(goodJournals(), oddJournals(), notJournals(), mixedJournals())
	for _, d := range anyStripeDisks() {
		l = append(l, impl.Journal{Disk: d, Acked: noughtState()})
	}
	return l
}

// fewJournals leaves out most of those of which there are many alike.
func fewJournals() []impl.Journal {
	l := goodJournals()
	for k, j := range slices.Concat(oddJournals(), notJournals(), mixedJournals()) {
		if k%23 == 0 {
			l = append(l, j)
		}
	}
	return l
}

func fewJournalSteps() []impl.JournalStep {
	l := append(someJournalSteps(), jrCrash(0, 3, 4), jrCrash(0, 1, 2), jrCrash(0, 1), jrPut(), impl.JournalStep{}, impl.JournalStep{Kind: 4, Values: []int{1}})
	return append(l, impl.JournalStep{Kind: 1, Values: noughtState(), Kept: []int{0}}, jrPut(1, 2, 3, 4, 5, 65536), jrPut(1, 2, 3, 4, 5, 6, 7))
}

func anyJournalSteps() []impl.JournalStep {
	l := append(badJournalSteps(), fewJournalSteps()...)
	for _, kind := range []int{0, 1, 2, 3, 4, 5, -1, math.MinInt, math.MaxInt} {
		for _, values := range [][]int{nil, {}, noughtState(), {-1}, make([]int, 1000)} {
			for _, kept := range anyKept() {
				l = append(l, impl.JournalStep{Kind: kind, Values: values, Kept: kept})
			}
		}
	}
	return l
}

func TestPromise19JournalsOfAnything(t *testing.T) {
	few, all := fewJournalSteps(), anyJournalSteps()
	for k, j := range anyJournals() {
		if impl.GoodJournal(j) != isSlowJournal(j) {
			t.Fatalf("GoodJournal %#v", j)
		}
		want, wantEpoch, wantOk := slowRecover(j.Disk)
		if values, epoch, ok := impl.RecoverFrom(j.Disk); !slices.Equal(values, want) || epoch != wantEpoch || ok != wantOk {
			t.Fatalf("RecoverFrom %#v: %v %d %v", j.Disk, values, epoch, ok)
		}
		steps := few
		if k < 20 || k%200 == 0 {
			steps = all
		}
		for _, x := range steps {
			checkJournalStep(t, j, x)
		}
	}
}

func TestPromise19JournalPlaysOfAnything(t *testing.T) {
	steps := anyJournalSteps()
	for from := 0; from < len(steps); from += 60 {
		l := steps[from:min(from+60, len(steps))]
		checkJournalPlay(t, l)
		checkJournalPlay(t, slices.Concat(oneRound(stateOf(1))[:3], l)[:min(60, len(l)+3)])
	}
	refusedJournalPlay(t, steps)
	refusedJournalPlay(t, steps[:61])
}

func TestPromise19StatesOfAnything(t *testing.T) {
	lists := append(anyKept(), notStates()...)
	for n := range 8 {
		eachList(min(n, 3), anyNumbers(), func(l []int) {
			lists = append(lists, append(slices.Repeat([]int{65535}, max(0, n-3)), l...))
		})
	}
	for _, values := range lists {
		want := []string{}
		if isSlowState(values) {
			want = slowHalves(values)
		}
		isBytes(t, values, want...)
	}
	texts := []string{"", "abcde", "abcdef", "abcdefg", "\x00\x00\x00\x00\x00\x00", textOf(12, 1), textOf(300, 2)}
	for n := range 4 {
		eachList(n, []int{0, 1, 2, 3, 4, 5, 6}, func(which []int) {
			l, want := []string{}, []int{}
			for _, k := range which {
				l = append(l, texts[k])
			}
			if n == 2 && len(l[0]) == 6 && len(l[1]) == 6 {
				want = slowValues(l)
			}
			isValues(t, l, want...)
		})
	}
	for _, epoch := range anyFields() {
		at, ok := impl.HalfOf(epoch)
		if is := epoch >= 0 && epoch <= 60000; ok != is || is && at != 1+epoch%2*2 || !is && at != 0 {
			t.Error(epoch, at, ok)
		}
	}
}

// laidJournal is a journal with memory behind each of its lists and texts, and a copy of all of it.
type laidJournal struct {
	journal impl.Journal
	disk    heldDisk
	acked   held
	coming  held
}

func layJournal(j impl.Journal, behind string, number int) laidJournal {
	h := laidJournal{disk: holdDisk(j.Disk, behind), acked: hold(j.Acked, number), coming: hold(j.Coming, number)}
	h.journal = impl.Journal{Disk: h.disk.disk, Epoch: j.Epoch, Phase: j.Phase, Acked: h.acked.list, Coming: h.coming.list}
	return h
}

func (h laidJournal) stays(t *testing.T) {
	t.Helper()
	h.disk.stays(t)
	h.acked.stays(t)
	h.coming.stays(t)
}

// spoilJournal writes over all memory that an answer has, list by list, and looks whether the others stay.
func spoilJournal(t *testing.T, j impl.Journal, more ...[]int) {
	t.Helper()
	was := cloneJournal(j)
	spoilRows(t, append([][]int{j.Acked, j.Coming}, more...))
	if !sameDisk(j.Disk, was.Disk) {
		t.Fatal("lists of an answer share memory", was)
	}
	spoilDisk(t, j.Disk)
}

// laidStep is a step with memory behind its lists.
type laidStep struct {
	step   impl.JournalStep
	values held
	kept   held
}

func layStep(x impl.JournalStep, behind int) laidStep {
	h := laidStep{values: hold(x.Values, behind), kept: hold(x.Kept, behind)}
	h.step = impl.JournalStep{Kind: x.Kind, Values: h.values.list, Kept: h.kept.list}
	return h
}

func (h laidStep) stays(t *testing.T) {
	t.Helper()
	h.values.stays(t)
	h.kept.stays(t)
}

func TestPromise19JournalStepMemory(t *testing.T) {
	for _, j := range fewJournals() {
		for _, x := range fewJournalSteps() {
			want, wantOk := slowJournalStep(j, x)
			for _, behind := range []int{0, 4, -1} {
				h, step := layJournal(j, []string{"", "behind"}[behind&1], behind), layStep(x, behind)
				got, ok := impl.StepJournal(h.journal, step.step)
				later, _ := impl.StepJournal(h.journal, step.step)
				if !sameJournal(got, want) || ok != wantOk {
					t.Fatalf("reads behind %#v %+v: %#v %v, want %#v", j, x, got, ok, want)
				}
				h.stays(t)
				step.stays(t)
				areNew(t, slices.Concat(got.Disk.Plate, got.Disk.Held, later.Disk.Plate, later.Disk.Held), h.disk.texts()...)
				spoilJournal(t, got)
				h.stays(t)
				step.stays(t)
				again, ok := impl.StepJournal(h.journal, step.step)
				if !sameJournal(later, want) || !sameJournal(again, want) || ok != wantOk {
					t.Fatalf("a later answer is another one %#v %+v: %#v %#v", j, x, later, again)
				}
			}
		}
	}
}

func TestPromise19JournalMemory(t *testing.T) {
	for _, j := range append(fewJournals(), goodJournals()...) {
		want, wantEpoch, wantOk := slowRecover(j.Disk)
		for _, behind := range []int{0, 1, -9} {
			h := layJournal(j, []string{"", "behind"}[behind&1], behind)
			for range 2 {
				if impl.GoodJournal(h.journal) != isSlowJournal(j) {
					t.Fatalf("GoodJournal reads behind %#v", j)
				}
				values, epoch, ok := impl.RecoverFrom(h.disk.disk)
				if !slices.Equal(values, want) || epoch != wantEpoch || ok != wantOk {
					t.Fatalf("RecoverFrom reads behind %#v: %v %d %v", j.Disk, values, epoch, ok)
				}
				spoil(values)
				h.stays(t)
			}
		}
	}
}

// What lies behind a list would make it a good one, or spoil it.
func TestPromise19WhatLiesBehindStates(t *testing.T) {
	whole := stateOf(1)
	for n := range 6 {
		isBytes(t, whole[:n])
		j := restingJournal(3, whole)
		if j.Acked = j.Acked[:n]; impl.GoodJournal(j) {
			t.Error("read behind Acked", n)
		}
		j = journalIn(1, 3, whole, stateOf(2))
		if j.Coming = j.Coming[:n]; impl.GoodJournal(j) {
			t.Error("read behind Coming", n)
		}
		refusedJournalStep(t, restingJournal(3, whole), jrPut(whole[:n]...))
		d := stateDisk(0, whole)
		notRecovered(t, impl.Disk{Plate: d.Plate[:min(n, 4)], Held: d.Held[:min(n, 4)], Bad: d.Bad[:min(n, 4)]})
	}
	six := []string{"abcdef", "ghijkl"}
	isValues(t, six[:1])
	isValues(t, []string{six[0][:5], six[1]})
	isValues(t, append(six, "behind")[:2], slowValues(six)...)
	isBytes(t, append(slices.Clone(whole), 7, 8)[:6], slowHalves(whole)...)
}

func TestPromise19StateBytesMemory(t *testing.T) {
	for _, values := range append(someStates(), notStates()...) {
		want, wantOk := impl.StateBytes(slices.Clone(values))
		for _, behind := range []int{0, 7, -1} {
			h := hold(values, behind)
			for range 2 {
				l, ok := impl.StateBytes(h.list)
				later, _ := impl.StateBytes(h.list)
				h.stays(t)
				if !slices.Equal(l, want) || ok != wantOk {
					t.Fatal("reads behind, or is another one later", values, l, ok)
				}
				areNew(t, slices.Concat(l, later))
				overwrite(l, "spoilt")
				if !slices.Equal(later, want) {
					t.Fatal("two answers share memory", values, later)
				}
			}
		}
	}
}

func TestPromise19StateFromMemory(t *testing.T) {
	lists := notHalves()
	for _, values := range someStates() {
		lists = append(lists, slowHalves(values))
	}
	for _, l := range lists {
		want, wantOk := impl.StateFrom(slices.Clone(l))
		for _, behind := range []string{"", "behind", "\x00\x00\x00\x00\x00\x00"} {
			h := holdTexts(l, behind, "more")
			for range 2 {
				values, ok := impl.StateFrom(h.list)
				later, _ := impl.StateFrom(h.list)
				h.stay(t)
				if !slices.Equal(values, want) || ok != wantOk {
					t.Fatal("reads behind, or is another one later", l, values, ok)
				}
				spoil(values)
				h.stay(t)
				if !slices.Equal(later, want) {
					t.Fatal("two answers share memory", l, later)
				}
			}
		}
	}
}

func TestPromise19NewJournalMemory(t *testing.T) {
	want := restingJournal(0, noughtState())
	for range 3 {
		j, other := impl.NewJournal(), impl.NewJournal()
		areNew(t, slices.Concat(j.Disk.Plate, other.Disk.Plate))
		spoilJournal(t, j)
		if !sameJournal(other, want) || !sameJournal(impl.NewJournal(), want) {
			t.Fatal("written into", other, impl.NewJournal())
		}
	}
}

func TestPromise19JournalPlayMemory(t *testing.T) {
	lists := [][]impl.JournalStep{nil, fewJournalSteps(), badJournalSteps()[:60], make([]impl.JournalStep, 61), oneRound(stateOf(3))}
	for n := range 8 {
		lists = append(lists, oneRound(stateOf(n))[:n%4+1])
	}
	for seed := range 30 {
		lists = append(lists, manyJournalSteps(60, seed), manyJournalSteps(20+seed, seed))
	}
	for _, l := range lists {
		want, wantDone, wantOk := impl.PlayJournal(slices.Clone(l))
		laid, steps := []laidStep{}, []impl.JournalStep{}
		for k, x := range l {
			laid = append(laid, layStep(x, k))
			steps = append(steps, laid[k].step)
		}
		steps = append(steps, jrPut(9), jrSync())[:len(l)]
		for range 2 {
			j, done, ok := impl.PlayJournal(steps)
			later, last, _ := impl.PlayJournal(steps)
			if !sameJournal(j, want) || !slices.Equal(done, wantDone) || ok != wantOk {
				t.Fatalf("reads behind, or is another one later %+v: %#v %v %v", l, j, done, ok)
			}
			areNew(t, slices.Concat(j.Disk.Plate, j.Disk.Held, later.Disk.Plate, later.Disk.Held))
			overwrite(done, true)
			spoilJournal(t, j)
			if !sameJournal(later, want) || !slices.Equal(last, wantDone) {
				t.Fatalf("two answers share memory %+v: %#v %v", l, later, last)
			}
			for k, x := range steps {
				laid[k].stays(t)
				if x.Kind != l[k].Kind || !slices.Equal(x.Values, l[k].Values) || !slices.Equal(x.Kept, l[k].Kept) {
					t.Fatalf("written into %+v %+v", x, l[k])
				}
			}
			if behind := steps[:len(l)+2][len(l):]; behind[0].Kind != impl.JrPut || behind[1].Kind != impl.JrSync {
				t.Fatal("written behind", behind)
			}
		}
	}
}

// Lists of a journal and of a step may be one, and texts may share memory: what is answered is what it is for copies.
func TestPromise19SharedJournals(t *testing.T) {
	values := stateOf(4)
	for phase := range 4 {
		apart := journalIn(phase, 2, values, values)
		whole := strings.Join(apart.Disk.Plate, "") + strings.Join(apart.Disk.Held, "")
		shared := cloneJournal(apart)
		shared.Acked = values
		if phase > 0 {
			shared.Coming = values
		}
		at := 0
		for _, l := range [][]string{shared.Disk.Plate, shared.Disk.Held} {
			for k, s := range l {
				l[k] = whole[at : at+len(s)]
				at += len(s)
			}
		}
		for _, x := range []impl.JournalStep{jrPut(values...), jrSync(), jrRoot(), jrCrash(), jrCrash(slowHeld(apart.Disk)...)} {
			want, wantOk := slowJournalStep(apart, x)
			got, ok := impl.StepJournal(shared, x)
			if !sameJournal(got, want) || ok != wantOk {
				t.Fatalf("%#v %+v: %#v %v, want %#v", apart, x, got, ok, want)
			}
			areNew(t, slices.Concat(got.Disk.Plate, got.Disk.Held), heldText{bytes: bytesOf(whole)})
			spoilJournal(t, got)
			if !sameJournal(shared, apart) || !slices.Equal(values, stateOf(4)) {
				t.Fatalf("written into %#v %v", shared, values)
			}
		}
	}
	// The Plate and what is Held are one list.
	texts := slices.Clone(stateDisk(1, values).Plate)
	one := impl.Journal{Disk: impl.Disk{Plate: texts, Held: texts, Bad: make([]bool, 5)}, Epoch: 1, Acked: values}
	apart := cloneJournal(one)
	for _, x := range []impl.JournalStep{jrPut(values...), jrSync(), jrCrash(), jrCrash(0, 3), jrCrash(0, 3, 4)} {
		want, wantOk := slowJournalStep(apart, x)
		got, ok := impl.StepJournal(one, x)
		if !sameJournal(got, want) || !ok || !wantOk {
			t.Fatalf("%+v: %#v %v, want %#v", x, got, ok, want)
		}
		spoilJournal(t, got)
		if !sameJournal(one, apart) {
			t.Fatalf("written into %#v", one)
		}
	}
}

// The lists of a play's steps may be one.
func TestPromise19PlaysOfOneList(t *testing.T) {
	values := stateOf(5)
	l := slices.Concat(oneRound(values), oneRound(values))
	j, done, ok := impl.PlayJournal(l)
	if !ok || !slices.Equal(done, allDone(8)) || j.Epoch != 2 || !slices.Equal(j.Acked, values) {
		t.Errorf("%#v %v", j, done)
	}
	spoilJournal(t, j)
	if !slices.Equal(values, stateOf(5)) || !slices.Equal(l[4].Values, stateOf(5)) {
		t.Error("written into", values, l)
	}
}
