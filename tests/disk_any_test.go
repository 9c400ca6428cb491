package tests

import (
	"math"
	"slices"
	"strings"
	"testing"

	"loop.example/g00405/impl"
)

func anyDisks() []impl.Disk {
	return append(someDisks(), notDisks()...)
}

func anyKept() [][]int {
	return [][]int{nil, {}, {0}, {1}, {23}, {24}, {-1}, {0, 1}, {1, 0}, {0, 0}, {0, 3, 6}, {math.MinInt}, {math.MaxInt}, {0, math.MaxInt}, make([]int, 100), bitsOf(1<<24 - 1), bitsOf(1<<25 - 1)}
}

func anySteps() []impl.DiskStep {
	l := append(goodSteps(), badSteps()...)
	for _, kind := range []int{0, 1, 2, 3, 4, 5, 6, 7, -1, math.MinInt, math.MaxInt} {
		for _, at := range []int{0, 1, 23, 24, -1, math.MinInt, math.MaxInt} {
			for _, text := range []string{"", "a", "\x00", textOf(28, 1), textOf(29, 2)} {
				for _, kept := range [][]int{nil, {}, {0}, {0, 1}, {-1}} {
					l = append(l, impl.DiskStep{Kind: kind, At: at, Text: text, Kept: kept})
				}
			}
		}
	}
	return l
}

func TestPromise19StepsOfAnything(t *testing.T) {
	steps := anySteps()
	for _, d := range anyDisks() {
		for _, x := range steps {
			checkStep(t, d, x)
		}
	}
}

func TestPromise19DisksOfAnything(t *testing.T) {
	for _, d := range anyDisks() {
		good := isSlowGood(d)
		if impl.GoodDisk(d) != good {
			t.Fatalf("GoodDisk %#v", d)
		}
		if l, ok := impl.HeldIn(d); ok != good || !ok && len(l) != 0 {
			t.Fatalf("HeldIn %#v: %v %v", d, l, ok)
		}
		for _, at := range append(anyNumbers(), 23, 24, 25) {
			s, ok := impl.ReadSector(d, at)
			if ok != (good && at >= 0 && at < len(d.Plate) && !d.Bad[at]) || !ok && s != "" {
				t.Fatalf("ReadSector %#v %d: %#v %v", d, at, s, ok)
			}
		}
		for _, kept := range anyKept() {
			after, ok := impl.AfterCrash(d, kept)
			if ok != (good && isSlowKept(d, kept)) || !ok && !isNoDisk(after) || ok && !sameDisk(after, slowCrash(d, kept)) {
				t.Fatalf("AfterCrash %#v %v: %#v %v", d, kept, after, ok)
			}
		}
	}
}

func TestPromise19PlaysOfAnything(t *testing.T) {
	steps := anySteps()
	lists := [][]impl.DiskStep{nil, {}, steps, steps[:81], goodSteps(), badSteps()[:80]}
	for from := 0; from < len(steps); from += 80 {
		lists = append(lists, steps[from:min(from+80, len(steps))])
	}
	for _, n := range append(anyNumbers(), 23, 24, 25) {
		for _, l := range lists {
			if n >= 1 && n <= 24 && len(l) <= 80 {
				checkPlay(t, n, l)
				continue
			}
			if d, done, ok := impl.PlayDisk(n, l); !isNoDisk(d) || len(done) != 0 || ok {
				t.Fatalf("PlayDisk %d, %d steps: %#v %v %v", n, len(l), d, done, ok)
			}
		}
	}
}

// heldDisk is a disk whose lists and texts lie in memory which can be looked at, with more behind each.
type heldDisk struct {
	disk  impl.Disk
	plate heldTexts
	held  heldTexts
	bad   []bool
}

func holdDisk(d impl.Disk, behind string) heldDisk {
	h := heldDisk{plate: holdTexts(d.Plate, behind, "p"), held: holdTexts(d.Held, behind, "h")}
	h.bad = append(slices.Clone(d.Bad), true, false, behind == "")
	h.disk = impl.Disk{Plate: h.plate.list, Held: h.held.list, Bad: slices.Clone(h.bad)[:len(d.Bad)]}
	return h
}

func (h heldDisk) stays(t *testing.T) {
	t.Helper()
	h.plate.stay(t)
	h.held.stay(t)
	if !slices.Equal(h.disk.Bad[:len(h.bad)], h.bad) {
		t.Fatal("written into", h.disk.Bad[:len(h.bad)], h.bad)
	}
}

func (h heldDisk) texts() []heldText {
	return append(slices.Clone(h.plate.texts), h.held.texts...)
}

func overwrite[T any](l []T, with T) {
	l = l[:cap(l)]
	for k := range l {
		l[k] = with
	}
}

// spoilDisk writes over all memory that a disk's lists have, list by list, and looks whether the others stay.
func spoilDisk(t *testing.T, d impl.Disk) {
	t.Helper()
	was := cloneDisk(d)
	overwrite(d.Plate, "spoilt")
	if !slices.Equal(d.Held, was.Held) {
		t.Fatal("lists of an answer share memory", was)
	}
	overwrite(d.Held, "spoilt too")
	if len(d.Plate) > 0 && d.Plate[0] != "spoilt" {
		t.Fatal("lists of an answer share memory", was)
	}
	overwrite(d.Bad, true)
}

// checkDiskMemory asks for the same answer of a disk with anything behind its lists, all of it new.
func checkDiskMemory(t *testing.T, d impl.Disk, given []heldText, ask func(d impl.Disk) (impl.Disk, bool)) {
	t.Helper()
	want, wantOk := ask(cloneDisk(d))
	for _, behind := range []string{"", "behind"} {
		h := holdDisk(d, behind)
		got, ok := ask(h.disk)
		h.stays(t)
		if !sameDisk(got, want) || ok != wantOk {
			t.Fatalf("reads behind %#v: %#v %v", d, got, ok)
		}
		areNew(t, slices.Concat(got.Plate, got.Held), append(h.texts(), given...)...)
		spoilDisk(t, got)
		h.stays(t)
		if again, ok := ask(h.disk); !sameDisk(again, want) || ok != wantOk {
			t.Fatalf("a later answer is another one %#v: %#v %v", d, again, ok)
		}
	}
}

func TestPromise19StepMemory(t *testing.T) {
	for _, d := range anyDisks() {
		steps := append(goodSteps(), badSteps()...)
		for _, kept := range append(someKept(slowHeld(d)), anyKept()...) {
			steps = append(steps, crash(kept...))
		}
		for _, x := range steps {
			text, kept := holdText(x.Text, "\x01"), hold(x.Kept, 23)
			x.Text, x.Kept = text.text, kept.list
			checkDiskMemory(t, d, []heldText{text}, func(d impl.Disk) (impl.Disk, bool) { return impl.StepDisk(d, x) })
			text.stays(t)
			kept.stays(t)
		}
	}
}

func TestPromise19CrashMemory(t *testing.T) {
	for _, d := range anyDisks() {
		for _, l := range append(someKept(slowHeld(d)), anyKept()...) {
			for _, behind := range []int{0, 23, -9} {
				kept := hold(l, behind)
				checkDiskMemory(t, d, nil, func(d impl.Disk) (impl.Disk, bool) { return impl.AfterCrash(d, kept.list) })
				kept.stays(t)
			}
		}
	}
}

func TestPromise19ReadSectorMemory(t *testing.T) {
	for _, d := range anyDisks() {
		for _, behind := range []string{"", "behind"} {
			h := holdDisk(d, behind)
			if impl.GoodDisk(h.disk) != impl.GoodDisk(d) {
				t.Fatalf("GoodDisk reads behind %#v", d)
			}
			want, wantOk := impl.HeldIn(d)
			held, ok := impl.HeldIn(h.disk)
			if !slices.Equal(held, want) || ok != wantOk {
				t.Fatalf("HeldIn reads behind %#v: %v", d, held)
			}
			spoil(held)
			for at := -1; at <= len(d.Plate)+1; at++ {
				want, wantOk := impl.ReadSector(d, at)
				s, ok := impl.ReadSector(h.disk, at)
				if s != want || ok != wantOk {
					t.Fatalf("ReadSector reads behind %#v %d: %#v %v", d, at, s, ok)
				}
				areNew(t, []string{s}, h.texts()...)
			}
			h.stays(t)
		}
	}
}

// heldSteps are steps whose texts and lists can be looked at, with more behind them.
type heldSteps struct {
	steps []impl.DiskStep
	texts []heldText
	kept  []held
}

func holdSteps(l []impl.DiskStep) heldSteps {
	h := heldSteps{}
	for _, x := range l {
		text, kept := holdText(x.Text, "behind"), hold(x.Kept, 1)
		h.texts, h.kept = append(h.texts, text), append(h.kept, kept)
		h.steps = append(h.steps, impl.DiskStep{Kind: x.Kind, At: x.At, Text: text.text, Kept: kept.list})
	}
	h.steps = append(h.steps, sync(), write(0, "behind"))[:len(l)]
	return h
}

func (h heldSteps) stay(t *testing.T, was []impl.DiskStep) {
	t.Helper()
	for k, x := range h.steps {
		if x.Kind != was[k].Kind || x.At != was[k].At || x.Text != was[k].Text || !slices.Equal(x.Kept, was[k].Kept) {
			t.Fatalf("written into %+v %+v", x, was[k])
		}
		h.texts[k].stays(t)
		h.kept[k].stays(t)
	}
	if behind := h.steps[:len(h.steps)+2][len(h.steps):]; behind[0].Kind != impl.DkSync || behind[1].Text != "behind" {
		t.Fatal("written behind", behind)
	}
}

func TestPromise19PlayMemory(t *testing.T) {
	lists := [][]impl.DiskStep{nil, goodSteps(), fewSteps(), badSteps()[:40], make([]impl.DiskStep, 81)}
	for seed := range 60 {
		lists = append(lists, manySteps(24, 80, seed), manySteps(3, 81, seed))
	}
	for _, l := range lists {
		for _, n := range []int{0, 1, 3, 24, 25} {
			h := holdSteps(l)
			want, wantDone, wantOk := impl.PlayDisk(n, slices.Clone(l))
			d, done, ok := impl.PlayDisk(n, h.steps)
			if !sameDisk(d, want) || !slices.Equal(done, wantDone) || ok != wantOk {
				t.Fatalf("reads behind %d %+v: %#v %v", n, l, d, done)
			}
			areNew(t, slices.Concat(d.Plate, d.Held), h.texts...)
			overwrite(d.Bad, true)
			if !slices.Equal(done, wantDone) {
				t.Fatal("Bad and what was done share memory")
			}
			overwrite(done, true)
			spoilDisk(t, d)
			h.stay(t, l)
		}
	}
}

// Two lists of a disk may be one, and its texts may share memory: the answers are those for copies.
func TestPromise19SharedDisks(t *testing.T) {
	whole := strings.Repeat("abc", 10)
	texts := []string{whole[:28], whole[3:20], whole[:28], "", "a"}
	shared := impl.Disk{Plate: texts, Held: texts, Bad: make([]bool, 5)}
	apart := cloneDisk(shared)
	for _, x := range []impl.DiskStep{write(1, texts[1]), write(3, texts[0]), sync(), crash(0, 2), crash(), rot(3, "a"), bad(0), bad(4)} {
		want, wantOk := slowStep(apart, x)
		got, ok := impl.StepDisk(shared, x)
		if !sameDisk(got, want) || ok != wantOk || !sameDisk(shared, apart) {
			t.Errorf("%+v: %#v %v, want %#v", x, got, ok, want)
		}
		areNew(t, slices.Concat(got.Plate, got.Held), heldText{bytes: bytesOf(whole)})
		spoilDisk(t, got)
		if !sameDisk(shared, apart) {
			t.Fatalf("an answer shares memory: %#v", shared)
		}
	}
}

func TestPromise19NewDiskMemory(t *testing.T) {
	for _, n := range []int{1, 2, 24} {
		d, _ := impl.NewDisk(n)
		later, _ := impl.NewDisk(n)
		spoilDisk(t, d)
		again, _ := impl.NewDisk(n)
		if !sameDisk(later, emptyDisk(n)) || !sameDisk(again, emptyDisk(n)) {
			t.Error("two answers share memory", later, again)
		}
	}
}
