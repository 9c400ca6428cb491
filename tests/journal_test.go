package tests

import (
	"encoding/binary"
	"math"
	"slices"
	"strings"
	"testing"

	"loop.example/g00405/impl"
)

// stateOf has values of all sizes.
func stateOf(seed int) []int {
	s := textOf(12, seed)
	return []int{int(s[0]) << 8, int(s[2]), int(s[4])<<8 | int(s[5]), int(s[6])<<8 | int(s[7]), 65535 - int(s[8]), int(s[10])<<8 | int(s[11])}
}

func someStates() [][]int {
	l := [][]int{noughtState(), slices.Repeat([]int{65535}, 6), slices.Repeat([]int{256}, 6), {1, 2, 3, 4, 5, 6}, {0, 1, 255, 256, 257, 65535}, {65535, 0, 65534, 0, 32768, 32767}}
	for k := range 6 {
		for _, value := range []int{1, 255, 256, 65280, 65535} {
			one := noughtState()
			one[k] = value
			l = append(l, one)
		}
	}
	for seed := range 30 {
		l = append(l, stateOf(seed))
	}
	return l
}

func noughtState() []int {
	return make([]int, 6)
}

func notStates() [][]int {
	l := [][]int{nil, {}, {0}, make([]int, 5), make([]int, 7), make([]int, 12), make([]int, 100)}
	for k := range 6 {
		for _, value := range []int{-1, -2, -65535, 65536, 65537, 131071, 1 << 32, 1<<32 + 1, math.MinInt, math.MaxInt} {
			values := stateOf(k)
			values[k] = value
			l = append(l, values)
		}
	}
	return l
}

func isSlowState(values []int) bool {
	return len(values) == 6 && slices.Min(values) >= 0 && slices.Max(values) < 1<<16
}

// slowHalf is the text of three values.
func slowHalf(values []int) string {
	l := []byte{}
	for _, value := range values {
		l = binary.BigEndian.AppendUint16(l, uint16(value))
	}
	return string(l)
}

func slowHalves(values []int) []string {
	return []string{slowHalf(values[:3]), slowHalf(values[3:])}
}

func slowValues(l []string) []int {
	all := strings.Join(l, "")
	values := []int{}
	for ; all != ""; all = all[2:] {
		values = append(values, int(binary.BigEndian.Uint16([]byte(all))))
	}
	return values
}

// notHalves are no two texts of six bytes.
func notHalves() [][]string {
	six := "abcdef"
	l := [][]string{nil, {}, {six}, {six + six}, {six, six, six}, {six, six, ""}, {"", six, six}, make([]string, 100)}
	for n := range 20 {
		if n != 6 {
			l = append(l, []string{textOf(n, 1), six}, []string{six, textOf(n, 2)}, []string{textOf(n, 3), textOf(12-min(n, 12), 4)})
		}
	}
	return append(l, []string{textOf(262, 5), six}, []string{six, textOf(262, 6)})
}

func isBytes(t *testing.T, values []int, want ...string) {
	t.Helper()
	if l, ok := impl.StateBytes(values); !slices.Equal(l, want) || ok != (len(want) > 0) {
		t.Errorf("StateBytes %v: %q %v, want %q", values, l, ok, want)
	}
}

func isValues(t *testing.T, l []string, want ...int) {
	t.Helper()
	if values, ok := impl.StateFrom(l); !slices.Equal(values, want) || ok != (len(want) > 0) {
		t.Errorf("StateFrom %q: %v %v, want %v", l, values, ok, want)
	}
}

func TestPromise15Constants(t *testing.T) {
	if impl.StateSize != 6 || impl.MaxJournalSteps != 60 {
		t.Error(impl.StateSize, impl.MaxJournalSteps)
	}
	if kinds := []int{impl.JrPut, impl.JrSync, impl.JrRoot, impl.JrCrash}; !slices.Equal(kinds, []int{1, 2, 3, 4}) {
		t.Error(kinds)
	}
}

func TestPromise15KnownStates(t *testing.T) {
	isBytes(t, noughtState(), "\x00\x00\x00\x00\x00\x00", "\x00\x00\x00\x00\x00\x00")
	isBytes(t, []int{0x6162, 0x6364, 0x6566, 0x6768, 0x696a, 0x6b6c}, "abcdef", "ghijkl")
	isBytes(t, []int{1, 256, 65535, 65280, 255, 0}, "\x00\x01\x01\x00\xff\xff", "\xff\x00\x00\xff\x00\x00")
	isValues(t, []string{"abcdef", "ghijkl"}, 0x6162, 0x6364, 0x6566, 0x6768, 0x696a, 0x6b6c)
	isValues(t, []string{"\x00\x01\x01\x00\xff\xff", "\xff\x00\x00\xff\x00\x00"}, 1, 256, 65535, 65280, 255, 0)
}

func TestPromise15StatesComeBack(t *testing.T) {
	for _, values := range someStates() {
		isBytes(t, values, slowHalves(values)...)
		isValues(t, slowHalves(values), values...)
	}
	for seed := range 200 {
		l := []string{textOf(6, seed), textOf(6, seed+1000)}
		isValues(t, l, slowValues(l)...)
		isBytes(t, slowValues(l), l...)
	}
	for value := range 65536 {
		values := []int{value, 65535 - value, 7, value ^ 0xff, 1, value}
		l, ok := impl.StateBytes(values)
		if again, is := impl.StateFrom(l); !ok || !is || !slices.Equal(again, values) {
			t.Fatal(values, l, again)
		}
	}
}

func TestPromise15StatesThatAreNot(t *testing.T) {
	for _, values := range notStates() {
		isBytes(t, values)
	}
	for _, l := range notHalves() {
		isValues(t, l)
	}
}

func TestPromise15Halves(t *testing.T) {
	for epoch := range 60001 {
		want := 1
		if epoch%2 == 1 {
			want = 3
		}
		if at, ok := impl.HalfOf(epoch); at != want || !ok {
			t.Fatal(epoch, at, ok)
		}
	}
	for _, epoch := range notEpochs() {
		if at, ok := impl.HalfOf(epoch); at != 0 || ok {
			t.Error(epoch, at, ok)
		}
	}
}

func rootFrame(epoch int) string {
	return rootWith(epoch, "")
}

// rootWith has a Body, as no journal writes it.
func rootWith(epoch int, body string) string {
	return slowFrame(impl.Frame{Kind: 4, Epoch: epoch, Body: body})
}

// halfFrames are the two sectors of a state, each by its place.
func halfFrames(epoch int, values []int) map[int]string {
	first := 1 + epoch%2*2
	l := map[int]string{}
	for k, body := range slowHalves(values) {
		l[first+k] = slowFrame(impl.Frame{Kind: 3, At: first + k, Epoch: epoch, Body: body})
	}
	return l
}

// stateDisk has a state and its root on the Plate.
func stateDisk(epoch int, values []int) impl.Disk {
	d := emptyDisk(5)
	d.Plate[0] = rootFrame(epoch)
	for k, s := range halfFrames(epoch, values) {
		d.Plate[k] = s
	}
	return d
}

// slowRecover makes the frames that would have to be there of what is there.
func slowRecover(d impl.Disk) ([]int, int, bool) {
	if !isSlowGood(d) || len(d.Plate) != 5 {
		return nil, 0, false
	}
	read := func(k int) string {
		s := d.Plate[k]
		if d.Held[k] != "" {
			s = d.Held[k]
		}
		if d.Bad[k] || len(s) != 28 {
			return strings.Repeat("?", 28)
		}
		return s
	}
	root := read(0)
	epoch, long := int(root[3])<<8+int(root[4]), int(root[5])
	if epoch > 60000 || long > 16 || root != rootWith(epoch, root[6:6+long]) {
		return nil, 0, false
	}
	first := 1 + epoch%2*2
	values := slowValues([]string{read(first)[6:12], read(first + 1)[6:12]})
	for k, s := range halfFrames(epoch, values) {
		if s != read(k) {
			return nil, 0, false
		}
	}
	return values, epoch, true
}

func recovers(t *testing.T, d impl.Disk, values []int, epoch int) {
	t.Helper()
	if got, e, ok := impl.RecoverFrom(d); !slices.Equal(got, values) || e != epoch || !ok {
		t.Errorf("RecoverFrom %#v: %v %d %v, want %v %d", d, got, e, ok, values, epoch)
	}
}

func notRecovered(t *testing.T, d impl.Disk) {
	t.Helper()
	if values, e, ok := impl.RecoverFrom(d); len(values) != 0 || e != 0 || ok {
		t.Errorf("RecoverFrom %#v: %v %d %v", d, values, e, ok)
	}
}

func someEpochs() []int {
	return []int{0, 1, 2, 3, 4, 255, 256, 257, 32767, 32768, 59998, 59999, 60000}
}

func TestPromise15RecoversStates(t *testing.T) {
	for _, values := range someStates() {
		for _, epoch := range someEpochs() {
			recovers(t, stateDisk(epoch, values), values, epoch)
		}
	}
	for epoch := range 60001 {
		if epoch%97 == 0 {
			recovers(t, stateDisk(epoch, stateOf(epoch)), stateOf(epoch), epoch)
		}
	}
}

// The other half tells nothing: it may be empty, another state's, older, newer, spoilt or Bad.
func TestPromise15TheOtherHalf(t *testing.T) {
	for _, epoch := range someEpochs() {
		values := stateOf(epoch)
		other := 3 - epoch%2*2
		others := []string{"", "x", textOf(28, epoch), rootFrame(epoch)}
		for _, near := range []int{epoch - 1, epoch + 1, epoch + 3} {
			if near >= 0 && near <= 60000 {
				others = append(others, halfFrames(near, stateOf(near+7))[other], halfFrames(near, stateOf(near+7))[other+1])
			}
		}
		for _, first := range others {
			for _, second := range others {
				d := stateDisk(epoch, values)
				d.Plate[other], d.Plate[other+1] = first, second
				recovers(t, d, values, epoch)
				d.Held[other], d.Held[other+1] = second, first
				recovers(t, d, values, epoch)
				d.Held[other], d.Held[other+1] = "", ""
				d.Bad[other], d.Bad[other+1] = first == "", second != "x"
				recovers(t, d, values, epoch)
			}
		}
	}
}

// What is Held is read where something is Held.
func TestPromise15RecoversWhatIsHeld(t *testing.T) {
	old, now := stateOf(1), stateOf(2)
	for _, epoch := range []int{0, 1, 59998, 59999} {
		d := stateDisk(epoch, old)
		for k, s := range halfFrames(epoch+1, now) {
			d.Held[k] = s
		}
		recovers(t, d, old, epoch)
		d.Held[0] = rootFrame(epoch + 1)
		recovers(t, d, now, epoch+1)
		for k := range halfFrames(epoch+1, now) {
			part := cloneDisk(d)
			part.Held[k] = ""
			notRecovered(t, part)
		}
		spoilt := cloneDisk(d)
		spoilt.Held[0] = "x"
		notRecovered(t, spoilt)
		mixed, first := stateDisk(epoch, old), 1+epoch%2*2
		mixed.Held[first] = halfFrames(epoch, now)[first]
		recovers(t, mixed, slices.Concat(now[:3], old[3:]), epoch)
		mixed.Held[first+1] = halfFrames(epoch, now)[first+1]
		recovers(t, mixed, now, epoch)
		mixed.Held[0] = rootFrame(epoch)
		recovers(t, mixed, now, epoch)
	}
}

// notFramesAt are no frames as they have to lie there, of those that do.
func notFramesAt(f impl.Frame) []string {
	s := slowFrame(f)
	l := []string{"", "x", s[:27], s[1:], strings.Repeat("\x00", 28), slowSector(f.Kind, f.At, f.Epoch, len(f.Body), padded(f.Body), "\x00\x01"), slowSector(f.Kind, f.At, f.Epoch, 17, padded(f.Body), "\x00\x00")}
	for k := range 28 {
		l = append(l, slowRot(s, strings.Repeat("\x00", k)+"\x01"), slowRot(s, strings.Repeat("\x00", k)+"\x80"))
	}
	for kind := range 8 {
		if kind != f.Kind {
			l = append(l, slowSector(kind, f.At, f.Epoch, len(f.Body), padded(f.Body), "\x00\x00"))
		}
	}
	for _, at := range []int{0, 1, 2, 3, 4, 5, 256 + f.At, 60000, 65535} {
		if at != f.At {
			l = append(l, slowSector(f.Kind, at, f.Epoch, len(f.Body), padded(f.Body), "\x00\x00"))
		}
	}
	for n := range 17 {
		if f.Kind != 4 && n != len(f.Body) { // a root may have any Body
			l = append(l, slowSector(f.Kind, f.At, f.Epoch, n, padded(textOf(n, n)), "\x00\x00"), slowSector(f.Kind, f.At, f.Epoch, n, padded(""), "\x00\x00"))
		}
		if n < 16 {
			l = append(l, slowSector(f.Kind, f.At, f.Epoch, n, padded("")[1:]+"\x01", "\x00\x00"))
		}
	}
	return l
}

// otherEpochs are those at which no sectors of this one lie, beside those of an even or odd one alike.
func otherEpochs(epoch int) []int {
	l := []int{}
	for _, other := range []int{0, 1, 2, epoch - 2, epoch - 1, epoch + 1, epoch + 2, epoch ^ 256, 59999, 60000, 60001, 60002, 65534, 65535} {
		if other >= 0 && other != epoch {
			l = append(l, other)
		}
	}
	return l
}

// spoiltDisks tell no state: one sector of those that have to tell one does not.
func spoiltDisks(epoch int, values []int) []impl.Disk {
	d := stateDisk(epoch, values)
	first := 1 + epoch%2*2
	frames := map[int]impl.Frame{0: {Kind: 4, Epoch: epoch}}
	for k, body := range slowHalves(values) {
		frames[first+k] = impl.Frame{Kind: 3, At: first + k, Epoch: epoch, Body: body}
	}
	l := []impl.Disk{}
	put := func(k int, s string) {
		spoilt := cloneDisk(d)
		spoilt.Plate[k] = s
		l = append(l, spoilt)
	}
	for _, k := range []int{0, first, first + 1} {
		for _, s := range notFramesAt(frames[k]) {
			put(k, s)
		}
		for _, other := range otherEpochs(epoch) {
			put(k, slowSector(frames[k].Kind, k, other, len(frames[k].Body), padded(frames[k].Body), "\x00\x00"))
		}
		isBad := cloneDisk(d)
		isBad.Bad[k] = true
		l = append(l, isBad)
	}
	swapped, mixed := cloneDisk(d), cloneDisk(d)
	swapped.Plate[first], swapped.Plate[first+1] = d.Plate[first+1], d.Plate[first]
	mixed.Plate[3], mixed.Plate[4], mixed.Plate[1], mixed.Plate[2] = d.Plate[1], d.Plate[2], d.Plate[3], d.Plate[4]
	return append(l, swapped, mixed)
}

// notJournalDisks are no good ones of five sectors, though what they have would tell a state.
func notJournalDisks() []impl.Disk {
	l := notDisks()
	for _, epoch := range []int{0, 1} {
		d := stateDisk(epoch, stateOf(epoch))
		for n := range 5 {
			l = append(l, impl.Disk{Plate: d.Plate[:n], Held: d.Held[:n], Bad: d.Bad[:n]})
		}
		for _, more := range []int{1, 5, 19, 20} {
			longer := emptyDisk(5 + more)
			copy(longer.Plate, d.Plate)
			l = append(l, longer)
		}
		shortHeld, longHeld, shortBad, longBad := cloneDisk(d), cloneDisk(d), cloneDisk(d), cloneDisk(d)
		shortHeld.Held, longHeld.Held = make([]string, 4), make([]string, 6)
		shortBad.Bad, longBad.Bad = make([]bool, 4), make([]bool, 6)
		other := 4 - epoch%2*2
		longPlate, heldTooLong, heldBad := cloneDisk(d), cloneDisk(d), cloneDisk(d)
		longPlate.Plate[other], heldTooLong.Held[other] = textOf(29, 1), textOf(29, 1)
		heldBad.Held[other], heldBad.Bad[other] = "x", true
		l = append(l, shortHeld, longHeld, shortBad, longBad, longPlate, heldTooLong, heldBad)
	}
	return l
}

func TestPromise15DisksThatTellNoState(t *testing.T) {
	for _, d := range append(notJournalDisks(), emptyDisk(5)) {
		notRecovered(t, d)
	}
	for _, epoch := range someEpochs() {
		for _, d := range spoiltDisks(epoch, stateOf(epoch)) {
			notRecovered(t, d)
			if values, _, ok := slowRecover(d); ok {
				t.Fatalf("tells a state %#v: %v", d, values)
			}
		}
	}
}

// A root that counts in an epoch whose half is not there, or is that of another one.
func TestPromise15RootsWithoutTheirHalf(t *testing.T) {
	for _, epoch := range someEpochs() {
		d := stateDisk(epoch, stateOf(3))
		if epoch > 0 {
			for k, s := range halfFrames(epoch-1, stateOf(4)) {
				d.Plate[k] = s
			}
		}
		for _, other := range append(someEpochs(), epoch+1, epoch+2) {
			d.Plate[0] = slowSector(4, 0, other, 0, padded(""), "\x00\x00")
			switch other {
			case epoch:
				recovers(t, d, stateOf(3), epoch)
			case epoch - 1:
				recovers(t, d, stateOf(4), other)
			default:
				notRecovered(t, d)
			}
		}
	}
}
