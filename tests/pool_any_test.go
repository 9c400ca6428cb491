package tests

import (
	"math"
	"slices"
	"testing"

	"loop.example/g00405/impl"
)

// anyPools are good ones, and ones that are not.
func anyPools() []impl.Pool {
	l := append(notPools(), impl.Pool{}, impl.NewPool(), knownPool(), manyPool(200, 40), manyPool(199, 39), manyPool(198, 39))
	for seed := range 40 {
		l = append(l, somePool(seed%24, seed%7, seed))
	}
	return append(l, oddPools()...)
}

// oddPools have anything in their lists, mostly not as said.
func oddPools() []impl.Pool {
	numbers := []int{0, 1, 2, 3, -1, 9999, 10000, 1 << 32, math.MinInt, math.MaxInt}
	l := []impl.Pool{{Versions: numbers}, {Branches: []impl.Branch{{Kids: numbers}}}, {Branches: make([]impl.Branch, 5000), Versions: make([]int, 5000)}, {Branches: []impl.Branch{{Kids: make([]int, 5000), Leaf: true}}, Versions: []int{-1}}}
	for seed := range 60 {
		b := []byte(textOf(80, seed))
		p := impl.Pool{}
		for k := range int(b[0]) % 7 {
			branch := impl.Branch{Leaf: b[k+1]%2 == 0}
			for _, c := range b[10+4*k : 10+4*k+4-bitOf(b[k+2]%11 == 0)] {
				branch.Kids = append(branch.Kids, numbers[int(c)%(5+seed%6)])
			}
			p.Branches = append(p.Branches, branch)
		}
		for _, c := range b[50 : 50+int(b[8])%8] {
			p.Versions = append(p.Versions, numbers[int(c)%(5+seed%6)])
		}
		l = append(l, p)
	}
	return l
}

// smallPools leaves out those of which many copies take long.
func smallPools() []impl.Pool {
	return slices.DeleteFunc(anyPools(), func(p impl.Pool) bool { return len(p.Branches) > 30 || len(p.Versions) > 30 })
}

func anyMapNumbers() []int {
	return append(anyNumbers(), 5, 6, 12, 15, 16, 39, 40, 9999, 10000, -4, -16)
}

func TestPromise19PoolsOfAnything(t *testing.T) {
	good := 0
	for _, p := range anyPools() {
		good += bitOf(isSlowPool(p))
		checkPool(t, p)
		for _, n := range anyMapNumbers() {
			checkVersion(t, p, n)
			for _, m := range []int{0, 1, 15, 16, -1, n} {
				checkDiff(t, p, n, m)
				checkDiff(t, p, m, n)
				checkPut(t, p, n, m, 7)
				checkPut(t, p, m, n, 0)
				checkPut(t, p, 0, m, n)
				checkPut(t, p, m, 15, n)
			}
		}
	}
	if good < 40 {
		t.Error("too few good ones", good)
	}
}

// NewPool hands out memory of its own each time.
func TestPromise19NewPoolMemory(t *testing.T) {
	for range 3 {
		p, other := impl.NewPool(), impl.NewPool()
		spoilPool(t, p)
		if !samePool(other, poolOf(nil, -1)) || !samePool(impl.NewPool(), poolOf(nil, -1)) {
			t.Fatal("written into", other, impl.NewPool())
		}
	}
}

// heldPool is a pool with memory behind each of its lists, and a copy of all of it.
type heldPool struct {
	pool     impl.Pool
	leaf     []bool
	kids     []held
	versions held
}

func holdPool(p impl.Pool, behind int) heldPool {
	h := heldPool{versions: hold(p.Versions, behind)}
	branches := make([]impl.Branch, 0, len(p.Branches)+3)
	for _, branch := range append(slices.Clone(p.Branches), leafOf(1, 2, 3, behind), stemOf(-1, behind, -1, 0), impl.Branch{}) {
		h.kids = append(h.kids, hold(branch.Kids, behind))
		h.leaf = append(h.leaf, branch.Leaf)
		branches = append(branches, impl.Branch{Kids: h.kids[len(h.kids)-1].list, Leaf: branch.Leaf})
	}
	h.pool = impl.Pool{Branches: branches[:len(p.Branches)], Versions: h.versions.list}
	return h
}

func (h heldPool) stays(t *testing.T) {
	t.Helper()
	for k, branch := range h.pool.Branches[:len(h.leaf)] {
		list := h.kids[k].list
		if branch.Leaf != h.leaf[k] || len(branch.Kids) != len(list) || cap(branch.Kids) != cap(list) || &branch.Kids[:1][0] != &list[:1][0] {
			t.Fatal("a branch is another one", k, branch, list)
		}
		h.kids[k].stays(t)
	}
	h.versions.stays(t)
}

// spoilPool writes over all memory that an answer has, list by list, and looks whether the others stay.
func spoilPool(t *testing.T, p impl.Pool, more ...[]int) {
	t.Helper()
	lists := append([][]int{p.Versions}, more...)
	for _, branch := range p.Branches {
		lists = append(lists, branch.Kids)
	}
	spoilRows(t, lists)
	overwrite(p.Branches, leafOf(-77))
}

// checkPoolMemory asks for the same answer of a pool with anything behind its lists, all of it new.
func checkPoolMemory(t *testing.T, p impl.Pool, ask func(p impl.Pool) (impl.Pool, []int, bool)) {
	t.Helper()
	x, l, wantOk := ask(clonePool(p))
	want, wantList := clonePool(x), slices.Clone(l)
	for _, behind := range []int{0, -1, -9} {
		h := holdPool(p, behind)
		for range 2 {
			x, l, ok := ask(h.pool)
			h.stays(t)
			if !samePool(x, want) || !slices.Equal(l, wantList) || ok != wantOk {
				t.Fatalf("reads behind %v, or is another one later: %v %v %v, want %v %v", p, x, l, ok, want, wantList)
			}
			later, last, _ := ask(h.pool)
			spoilPool(t, x, l)
			h.stays(t)
			if !samePool(later, want) || !slices.Equal(last, wantList) {
				t.Fatalf("two answers share memory %v: %v %v", p, later, last)
			}
		}
	}
}

func TestPromise19PoolMemory(t *testing.T) {
	for _, p := range anyPools() {
		checkPoolMemory(t, p, func(p impl.Pool) (impl.Pool, []int, bool) { return impl.Pool{}, nil, impl.GoodPool(p) })
		checkPoolMemory(t, p, func(p impl.Pool) (impl.Pool, []int, bool) {
			x, n, ok := impl.TrimPool(p)
			return x, []int{n}, ok
		})
		for version := -1; version <= min(len(p.Versions), 41); version++ {
			checkPoolMemory(t, p, func(p impl.Pool) (impl.Pool, []int, bool) {
				x, ok := impl.CloneOf(p, version)
				return x, nil, ok
			})
		}
	}
}

func TestPromise19MapMemory(t *testing.T) {
	for _, p := range smallPools() {
		for version := -1; version <= len(p.Versions); version++ {
			checkPoolMemory(t, p, func(p impl.Pool) (impl.Pool, []int, bool) {
				l, ok := impl.AllIn(p, version)
				return impl.Pool{}, l, ok
			})
			checkPoolMemory(t, p, func(p impl.Pool) (impl.Pool, []int, bool) {
				l, ok := impl.DiffIn(p, 0, version)
				return impl.Pool{}, l, ok
			})
			checkPoolMemory(t, p, func(p impl.Pool) (impl.Pool, []int, bool) {
				n, ok := impl.GetIn(p, version, 5)
				return impl.Pool{}, []int{n}, ok
			})
		}
	}
}

func TestPromise19PutMemory(t *testing.T) {
	for _, p := range append(smallPools(), manyPool(198, 39), manyPool(199, 39)) {
		for version := -1; version <= len(p.Versions); version++ {
			for _, key := range []int{-1, 0, 7, 15, 16} {
				checkPoolMemory(t, p, func(p impl.Pool) (impl.Pool, []int, bool) {
					x, ok := impl.PutIn(p, version, key, 4321)
					return x, nil, ok
				})
			}
		}
	}
}

// Lists of a pool may be one: what is answered is what it is for copies, and none is written into.
func TestPromise19SharedPools(t *testing.T) {
	noNames, leaves := []int{-1, -1, -1, -1}, []int{0, 0, 0, 0, 1, 1, 1}
	for _, p := range []impl.Pool{
		poolOf([]impl.Branch{leafOf(leaves[:4]...), stemOf(leaves[:4]...), leafOf(leaves[:4]...), stemOf(leaves[:4]...)}, 1, 3),
		poolOf([]impl.Branch{stemOf(noNames...), stemOf(noNames...)}, noNames...),
		poolOf([]impl.Branch{leafOf(leaves[:4]...), leafOf(leaves[1:5]...), stemOf(leaves[2:6]...), stemOf(leaves[3:]...)}, 3, 2, -1),
		poolOf([]impl.Branch{stemOf(noNames...), stemOf(noNames...)}, leaves...),
		poolOf([]impl.Branch{leafOf(leaves[3:]...), stemOf(leaves[:4]...)}, leaves[4:]...),
	} {
		if !isSlowPool(p) {
			t.Fatal("not good", p)
		}
		apart := clonePool(p)
		checkPool(t, p)
		for version := range p.Versions {
			checkPut(t, p, version, 5, 6)
			for _, ask := range []func() (impl.Pool, []int){
				func() (impl.Pool, []int) { x, _ := impl.PutIn(p, version, 5, 6); return x, nil },
				func() (impl.Pool, []int) { x, _ := impl.CloneOf(p, version); return x, nil },
				func() (impl.Pool, []int) { x, _, _ := impl.TrimPool(p); return x, nil },
				func() (impl.Pool, []int) { l, _ := impl.AllIn(p, version); return impl.Pool{}, l },
				func() (impl.Pool, []int) { l, _ := impl.DiffIn(p, version, 0); return impl.Pool{}, l },
			} {
				x, l := ask()
				spoilPool(t, x, l)
				if !samePool(p, apart) {
					t.Fatalf("written into %v %v", p, apart)
				}
			}
		}
	}
	if !slices.Equal(noNames, []int{-1, -1, -1, -1}) || !slices.Equal(leaves, []int{0, 0, 0, 0, 1, 1, 1}) {
		t.Error(noNames, leaves)
	}
}
