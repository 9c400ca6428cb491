package tests

import (
	"slices"
	"strings"
	"testing"

	"loop.example/g00405/impl"
)

// rotten has sectors of a stripe rot, all of them told by their place in it.
func rotten(t *testing.T, s impl.Scrub, k int, places []int) impl.Scrub {
	t.Helper()
	for i, place := range places {
		mask := strings.Repeat("\x00", (i+k)%4) + string([]byte{byte(1 << ((place + k) % 8))})
		next, ok := impl.RotIn(s, 5*k+place, mask)
		if !ok {
			t.Fatalf("RotIn %#v %d %q", s, 5*k+place, mask)
		}
		s = next
	}
	return s
}

func badIn(d impl.Disk, k int) []int {
	l := []int{}
	for place, is := range d.Bad[5*k : 5*k+5] {
		if is {
			l = append(l, place)
		}
	}
	return l
}

// checkRound asks for what promise 16 says of any scrub, and for a second round that has nothing to do.
func checkRound(t *testing.T, s impl.Scrub) {
	t.Helper()
	after, told, ok := impl.ScrubAll(s)
	if !ok || len(told) != len(s.Epochs) || after.Cursor != s.Cursor || !slices.Equal(after.Epochs, s.Epochs) || !slices.Equal(after.Disk.Bad, s.Disk.Bad) {
		t.Fatalf("ScrubAll %#v: %#v %v %v", s, after, told, ok)
	}
	written, again := 0, make([]int, len(told))
	for k := range s.Epochs {
		text, was := impl.TextAt(s, k)
		isTextAt(t, after, k, text, was)
		i := (k - s.Cursor + len(told)) % len(told)
		if !was {
			again[i] = -1
			if told[i] != -1 {
				t.Fatalf("%#v: %v", s, told)
			}
			continue
		}
		written += told[i]
		bad := badIn(s.Disk, k)
		isHealth(t, after.Disk, 5*k, s.Epochs[k], impl.Health{Lost: bad, Whole: len(bad) == 0}, true)
	}
	if after.Mended != min(10000, s.Mended+written) {
		t.Fatalf("%#v: %d, %d were written", s, after.Mended, written)
	}
	isRound(t, after, after, again, true)
}

// Every set of a stripe's sectors rots: up to two are mended, of more the stripe is left.
func TestPromise16EverySetRots(t *testing.T) {
	for n := 1; n <= 4; n++ {
		for k := range n {
			for set := range 32 {
				whole := scrubWith([]int{1, 59999, 7, 60000}[:n]...)
				whole.Cursor, whole.Mended = (k+set)%n, set
				s := rotten(t, whole, k, bitsOf(set))
				want, told := cloneScrub(whole), make([]int, n)
				i := (k - s.Cursor + n) % n
				if told[i] = len(bitsOf(set)); told[i] > 2 {
					told[i], want.Disk = -1, s.Disk
					isTextAt(t, s, k, "", false)
					isDamage(t, s, []int{k}, true)
				} else {
					want.Mended += told[i]
					isTextAt(t, s, k, ownText(k), true)
					isDamage(t, s, nil, true)
				}
				isRound(t, s, want, told, true)
				checkRound(t, s)
				checkScrub(t, s)
			}
		}
	}
}

// Each of several stripes has rotten sectors of its own, as many as are told for it.
func TestPromise16SeveralStripesRot(t *testing.T) {
	for n := 2; n <= 4; n++ {
		eachList(n, []int{0, 1, 2, 3}, func(l []int) {
			whole := scrubWith([]int{1, 0, 7, 60000}[:n]...)
			whole.Cursor = l[0] % n
			s, want := cloneScrub(whole), cloneScrub(whole)
			damaged, told := []int{}, make([]int, n)
			for k, many := range l {
				places := placeSets(5, many)
				s = rotten(t, s, k, places[(k+l[0])%len(places)])
				told[(k-s.Cursor+n)%n] = many
				want.Mended += many
				if many == 3 {
					damaged = append(damaged, k)
					told[(k-s.Cursor+n)%n] = -1
					want.Mended -= many
					copy(want.Disk.Plate[5*k:5*k+5], s.Disk.Plate[5*k:])
				}
			}
			isDamage(t, s, damaged, true)
			isRound(t, s, want, told, true)
			checkRound(t, s)
		})
	}
}

func TestPromise16TextsOfAllLengthsRot(t *testing.T) {
	for n := range 48 {
		for _, text := range textsOf(n) {
			whole := scrubOf(text, "other")
			for _, places := range placeSets(5, 2) {
				s := rotten(t, whole, 0, places)
				isTextAt(t, s, 0, text, true)
				want := cloneScrub(whole)
				want.Cursor, want.Mended = 1, 2
				isNext(t, s, want, 2, true)
			}
			s := rotten(t, whole, 0, placeSets(5, 3)[n%10])
			left := cloneScrub(s)
			left.Cursor = 1
			isNext(t, s, left, -1, true)
		}
	}
}

// A sector that rots back is as it was, and one that noughts are laid over never was another one.
func TestPromise16NothingIsWritten(t *testing.T) {
	for n := 1; n <= 4; n++ {
		whole := scrubWith([]int{1, 2, 3, 4}[:n]...)
		s := cloneScrub(whole)
		for at := range 5 * n {
			mask := textOf(1+at%4, at)
			s, _ = impl.RotIn(s, at, "\x00\x00\x00\x00")
			s, _ = impl.RotIn(s, at, mask)
			s, _ = impl.RotIn(s, at, mask)
		}
		if !sameScrub(s, whole) {
			t.Fatalf("%#v", s)
		}
		for range 2 * n {
			next := cloneScrub(s)
			next.Cursor = (s.Cursor + 1) % n
			isNext(t, s, next, 0, true)
			isRound(t, s, s, make([]int, n), true)
			s = next
		}
	}
}

// ScrubNext goes round and round, stripe after stripe.
func TestPromise16StripeAfterStripe(t *testing.T) {
	for n := 1; n <= 4; n++ {
		for cursor := range n {
			s := scrubWith([]int{1, 2, 3, 4}[:n]...)
			s.Cursor = cursor
			for k := range n {
				s = rotten(t, s, k, placeSets(5, k%4)[k])
			}
			round, told, _ := impl.ScrubAll(s)
			next := cloneScrub(s)
			for i := range 2 * n {
				k := (cursor + i) % n
				want := k % 4
				if i >= n {
					want = 0
				}
				if k == 3 {
					want = -1
				}
				after, m, ok := impl.ScrubNext(next)
				if !ok || m != want || after.Cursor != (k+1)%n || i < n && m != told[i] {
					t.Fatalf("%d %d %d: %#v %d", n, cursor, i, after, m)
				}
				// The stripes that are not at the Cursor stay as they were.
				for other := range n {
					if other != k && !slices.Equal(after.Disk.Plate[5*other:5*other+5], next.Disk.Plate[5*other:5*other+5]) {
						t.Fatalf("%d %d: %#v", n, k, after)
					}
				}
				if next = after; i == n-1 && !sameScrub(next, round) {
					t.Fatalf("%#v, want %#v", next, round)
				}
			}
		}
	}
}

// Bad sectors are not written; healed they are.
func TestPromise16BadSectors(t *testing.T) {
	for set := range 32 {
		for more := range 32 {
			whole := scrubWith(1, 5, 60000)
			whole.Cursor = 1
			s := rotten(t, whole, 1, bitsOf(more))
			for _, k := range bitsOf(set) {
				s.Disk.Bad[5+k] = true
			}
			checkRound(t, s)
			after, told, ok := impl.ScrubNext(s)
			if spoilt := len(bitsOf(set | more)); spoilt > 2 {
				if told != -1 || !ok || !sameDisk(after.Disk, s.Disk) || after.Mended != 0 || after.Cursor != 2 {
					t.Fatalf("%d %d: %#v %d", set, more, after, told)
				}
				continue
			}
			want := cloneScrub(whole)
			want.Cursor, want.Mended = 2, len(bitsOf(more&^set))
			copy(want.Disk.Bad, s.Disk.Bad)
			for _, k := range bitsOf(set) {
				want.Disk.Plate[5+k] = s.Disk.Plate[5+k]
			}
			isNext(t, s, want, want.Mended, true)
			for _, k := range bitsOf(set) {
				after.Disk, _ = impl.StepDisk(after.Disk, heal(5+k))
			}
			after.Cursor = 1
			healed, told, ok := impl.ScrubNext(after)
			if told != len(bitsOf(set)) || !ok || !slices.Equal(healed.Disk.Plate, whole.Disk.Plate) {
				t.Fatalf("%d %d: %#v %d", set, more, healed, told)
			}
		}
	}
}

// What is Held, of this stripe or of another one, is on the Plate behind a stripe that could be read, and only then.
func TestPromise16HeldSectors(t *testing.T) {
	for set := range 32 {
		s := scrubWith(1, 2)
		s.Cursor = 1
		for _, k := range bitsOf(set) {
			s.Disk.Held[5+k] = "held"
		}
		s.Disk.Held[1], s.Disk.Held[3] = stripeSectors(0, 9, slowBlock("new"))[1], "other"
		checkRound(t, s)
		checkScrub(t, s)
		want := cloneScrub(s)
		want.Cursor = 0
		told := len(bitsOf(set))
		if told > 2 {
			isNext(t, s, want, -1, true)
			continue
		}
		want.Disk, want.Mended = scrubWith(1, 2).Disk, told
		want.Disk.Plate[1], want.Disk.Plate[3] = s.Disk.Held[1], s.Disk.Held[3]
		isNext(t, s, want, told, true)
	}
}

// A stripe of which a write is Held is read as what it is to be, and that is on the Plate then.
func TestPromise16HeldStripes(t *testing.T) {
	for set := range 32 {
		s := scrubWith(3, 4)
		next := stripeSectors(5, 5, slowBlock("to be"))
		for _, k := range bitsOf(set) {
			s.Disk.Held[5+k] = next[k]
		}
		text := ownText(1)
		if len(bitsOf(set)) >= 3 {
			text = "to be"
		}
		isTextAt(t, s, 1, text, true)
		checkRound(t, s)
		checkScrub(t, s)
		after, told, _ := impl.ScrubAll(s)
		isTextAt(t, after, 1, text, true)
		if many := len(bitsOf(set)); told[1] != min(many, 5-many) || len(slowHeld(after.Disk)) > 0 || after.Epochs[1] != 4 {
			t.Fatalf("%d: %#v %v", set, after, told)
		}
	}
}

// A stripe that cannot be read, for each reason, is left as it was with all that is Held; the others are mended.
func TestPromise16StripesThatAreLeft(t *testing.T) {
	for _, lose := range losses() {
		s := scrubWith(7, 7, 7)
		s = rotten(t, s, 0, []int{1, 3})
		for _, k := range []int{0, 2, 4} {
			lose(s.Disk, 5+k)
		}
		s.Cursor, s.Mended = 1, 9
		isDamage(t, s, []int{1}, true)
		isTextAt(t, s, 1, "", false)
		left := cloneScrub(s)
		left.Cursor = 2
		isNext(t, s, left, -1, true)
		checkRound(t, s)
		checkScrub(t, s)
		after, told, ok := impl.ScrubAll(s)
		if !ok || !slices.Equal(told, []int{-1, 0, 2}) || after.Mended != 11 || after.Cursor != 1 {
			t.Fatalf("%#v %v", after, told)
		}
		for at := 5; at < 10; at++ {
			was, wasOk := impl.ReadSector(s.Disk, at)
			if is, ok := impl.ReadSector(after.Disk, at); is != was || ok != wasOk {
				t.Fatalf("%d: %q, was %q", at, is, was)
			}
		}
	}
	// All pieces are there, but no text has them.
	for _, block := range []string{notBlocks()[0], notBlocks()[415], notBlocks()[500]} {
		s := scrubWith(1, 1)
		copy(s.Disk.Plate[5:], stripeSectors(5, 1, block))
		isDamage(t, s, []int{1}, true)
		isRound(t, s, s, []int{0, -1}, true)
	}
}

func TestPromise16MendedAtMost(t *testing.T) {
	for mended := 9990; mended <= 10000; mended++ {
		for n := 1; n <= 4; n++ {
			for many := range 3 {
				s := scrubWith([]int{1, 2, 3, 4}[:n]...)
				for k := range n {
					s = rotten(t, s, k, placeSets(5, many)[0])
				}
				s.Mended = mended
				next, told, ok := impl.ScrubNext(s)
				if !ok || told != many || next.Mended != min(10000, mended+many) || !impl.GoodScrub(next) {
					t.Errorf("%d %d: %d %d", mended, many, told, next.Mended)
				}
				round, all, ok := impl.ScrubAll(s)
				if !ok || !slices.Equal(all, slices.Repeat([]int{many}, n)) || round.Mended != min(10000, mended+n*many) || !impl.GoodScrub(round) {
					t.Errorf("%d %d: %v %d", mended, many, all, round.Mended)
				}
			}
		}
	}
}

// oddScrub is a good one that no play makes: any sector may be of another Epoch, lost, Bad, or Held.
func oddScrub(seed int) impl.Scrub {
	n := 1 + seed%4
	which := elementsIn(textOf(40, seed))
	s := impl.Scrub{Disk: emptyDisk(5 * n), Cursor: which[0] % n, Mended: []int{0, 1, 9997, 9998, 9999, 10000}[which[1]%6]}
	for k := range n {
		epoch := []int{0, 1, 2, 7, 256, 59999, 60000}[which[2+k]%7]
		s.Epochs = append(s.Epochs, epoch)
		own := stripeSectors(5*k, epoch, slowBlock(textOf(which[6+k]%48, seed)))
		old := stripeSectors(5*k, max(0, epoch-1), slowBlock("old"))
		next := stripeSectors(5*k, min(60000, epoch+1), slowBlock("next"))
		for i := range 5 {
			at := 5*k + i
			plate := []string{next[i], next[i], old[i], slowRot(own[i], textOf(1+i, at)), "", "x"}
			held := []string{own[i], next[i], old[i], "x"}
			s.Disk.Plate[at] = own[i]
			if what := which[10+at] % (8 + seed%7*8); what < len(plate) {
				s.Disk.Plate[at] = plate[what]
			}
			if what := which[15+at] % (8 + seed%11*8); what < len(held) {
				s.Disk.Held[at] = held[what]
			} else if what == 7 {
				s.Disk.Bad[at] = true
			}
		}
	}
	return s
}

func oddScrubs() []impl.Scrub {
	l := []impl.Scrub{}
	for seed := range 500 {
		l = append(l, oddScrub(seed))
	}
	return l
}

func TestPromise16OddScrubs(t *testing.T) {
	read, left, written := 0, 0, 0
	for _, s := range oddScrubs() {
		if !impl.GoodScrub(s) {
			t.Fatalf("not good %#v", s)
		}
		checkScrub(t, s)
		checkRound(t, s)
		_, told, _ := impl.ScrubAll(s)
		for _, n := range told {
			switch {
			case n < 0:
				left++
			case n > 0:
				written++
			default:
				read++
			}
		}
	}
	if min(read, left, written) < 100 {
		t.Error("too few of a kind", read, left, written)
	}
}
