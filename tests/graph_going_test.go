package tests

import (
	"math"
	"slices"
	"testing"

	"loop.example/g00405/impl"
)

// slowLose works in the graph that it is handed. What a node held that goes comes ahead of the names that are still to go.
func slowLose(g impl.Graph, names ...int) (impl.Graph, []int) {
	gone := []int{}
	for len(names) > 0 {
		n := names[0]
		names = names[1:]
		g.Counts[n]--
		if g.Counts[n] == 0 {
			gone = append(gone, n)
			names = slices.Concat(g.Nodes[n].Holds, names)
			g.Nodes[n] = goneNode
		}
	}
	return g, gone
}

func slowDrop(g impl.Graph, k int) (impl.Graph, []int, bool) {
	if !isSlowGraph(g) || k < 0 || k >= len(g.Roots) {
		return impl.Graph{}, nil, false
	}
	x := cloneGraph(g)
	x.Roots = slices.Delete(x.Roots, k, k+1)
	x, gone := slowLose(x, g.Roots[k])
	return x, gone, true
}

func slowUnlink(g impl.Graph, from int, at int) (impl.Graph, []int, bool) {
	if !isSlowGraph(g) || from < 0 || from >= len(g.Nodes) || at < 0 || at >= len(g.Nodes[from].Holds) {
		return impl.Graph{}, nil, false
	}
	x := cloneGraph(g)
	x.Nodes[from].Holds = slices.Delete(x.Nodes[from].Holds, at, at+1)
	x, gone := slowLose(x, g.Nodes[from].Holds[at])
	return x, gone, true
}

func slowSweep(g impl.Graph) (impl.Graph, []int, bool) {
	if !areSlowNodes(g.Nodes, g.Roots) {
		return impl.Graph{}, nil, false
	}
	x, gone := cloneGraph(g), []int{}
	reached := slowReached(g.Nodes, g.Roots)
	for k, node := range g.Nodes {
		if !node.Gone && !slices.Contains(reached, k) {
			gone = append(gone, k)
			x.Nodes[k] = goneNode
		}
	}
	return slowGraph(x.Nodes, x.Roots...), gone, true
}

func isDropped(t *testing.T, g impl.Graph, k int, want impl.Graph, gone ...int) {
	t.Helper()
	if x, l, ok := impl.DropRoot(g, k); !sameGraph(x, want) || !slices.Equal(l, gone) || !ok {
		t.Errorf("DropRoot %v %d: %v %v %v, want %v %v", g, k, x, l, ok, want, gone)
	}
}

func isUnlinked(t *testing.T, g impl.Graph, from int, at int, want impl.Graph, gone ...int) {
	t.Helper()
	if x, l, ok := impl.UnlinkNode(g, from, at); !sameGraph(x, want) || !slices.Equal(l, gone) || !ok {
		t.Errorf("UnlinkNode %v %d %d: %v %v %v, want %v %v", g, from, at, x, l, ok, want, gone)
	}
}

// isSwept takes what goes as said by hand; what is left is told by the names in it.
func isSwept(t *testing.T, g impl.Graph, gone []int) {
	t.Helper()
	want := cloneGraph(g)
	for _, k := range gone {
		want.Nodes[k] = goneNode
	}
	want.Counts = slowCounts(want.Nodes, want.Roots)
	if x, l, ok := impl.SweepGraph(g); !sameGraph(x, want) || !slices.Equal(l, gone) || !ok {
		t.Errorf("SweepGraph %v: %v %v %v, want %v %v", g, x, l, ok, want, gone)
	}
}

// goneAll has n nodes that are all Gone, and no roots.
func goneAll(n int) impl.Graph {
	return impl.Graph{Nodes: slices.Repeat([]impl.Node{goneNode}, n), Counts: make([]int, n)}
}

func TestPromise10KnownDrops(t *testing.T) {
	isDropped(t, slowGraph(nodesOf(nil), 0), 0, goneAll(1), 0)
	isDropped(t, slowGraph(nodesOf(nil), 0, 0), 0, slowGraph(nodesOf(nil), 0))
	isDropped(t, slowGraph(nodesOf(nil), 0, 0), 1, slowGraph(nodesOf(nil), 0))
	isDropped(t, slowGraph(nodesOf(nil), make([]int, 6)...), 5, slowGraph(nodesOf(nil), make([]int, 5)...))
	isDropped(t, slowGraph(nodesOf(nil, nil), 1, 0), 0, impl.Graph{Nodes: []impl.Node{{}, goneNode}, Roots: []int{0}, Counts: []int{1, 0}}, 1)
	isDropped(t, slowGraph(nodesOf(nil, nil), 1, 0), 1, impl.Graph{Nodes: []impl.Node{goneNode, {}}, Roots: []int{1}, Counts: []int{0, 1}}, 0)
	g := slowGraph(nodesOf(nil, []int{0}), 1, 0, 1)
	isDropped(t, g, 0, slowGraph(g.Nodes, 0, 1))
	isDropped(t, g, 1, slowGraph(g.Nodes, 1, 1))
	isDropped(t, g, 2, slowGraph(g.Nodes, 1, 0))
	isDropped(t, slowGraph(g.Nodes, 0, 1), 1, impl.Graph{Nodes: []impl.Node{{}, goneNode}, Roots: []int{0}, Counts: []int{1, 0}}, 1)
	isDropped(t, slowGraph([]impl.Node{goneNode, {}, {Holds: []int{1, 1, 1}}}, 2), 0, goneAll(3), 2, 1)
}

func TestPromise10RootsThatAreNotThere(t *testing.T) {
	refusedDrop(t, impl.Graph{}, 0)
	refusedDrop(t, goneAll(3), 0)
	for n := 1; n <= 6; n++ {
		g := slowGraph(chainOf(14), append([]int{13}, make([]int, n)...)[:n]...)
		for _, k := range []int{n, n + 1, 6, 7, 13, -1, -n, 1 << 32, math.MinInt, math.MaxInt} {
			refusedDrop(t, g, k)
		}
	}
}

// A chain goes from its end on, up to what somebody else holds.
func TestPromise10ChainsThatGo(t *testing.T) {
	for n := 1; n <= 14; n++ {
		down := slices.Clone(bitsOf(1<<n - 1))
		slices.Reverse(down)
		isDropped(t, slowGraph(chainOf(n), n-1), 0, goneAll(n), down...)
		for stays := range n - 1 {
			left := append(chainOf(stays+1), slices.Repeat([]impl.Node{goneNode}, n-1-stays)...)
			isDropped(t, slowGraph(chainOf(n), stays, n-1), 1, slowGraph(left, stays), down[:n-1-stays]...)
		}
	}
}

// A node that several hold goes with the last one of them.
func TestPromise10SharedNodesThatGo(t *testing.T) {
	nodes := nodesOf(nil, []int{0}, []int{0}, []int{0})
	g := slowGraph(nodes, 2, 1, 3)
	isDropped(t, g, 0, slowGraph([]impl.Node{{}, {Holds: []int{0}}, goneNode, {Holds: []int{0}}}, 1, 3), 2)
	g = slowGraph([]impl.Node{{}, {Holds: []int{0}}, goneNode, {Holds: []int{0}}}, 1, 3)
	isDropped(t, g, 1, slowGraph([]impl.Node{{}, {Holds: []int{0}}, goneNode, goneNode}, 1), 3)
	isDropped(t, slowGraph([]impl.Node{{}, {Holds: []int{0}}, goneNode, goneNode}, 1), 0, goneAll(4), 1, 0)
	// Names that one node has of another several times go together.
	isDropped(t, slowGraph(nodesOf(nil, nil, []int{0, 1, 0, 0, 1, 0}), 2, 1), 0, slowGraph([]impl.Node{goneNode, {}, goneNode}, 1), 2, 0)
	isDropped(t, slowGraph(nodesOf(nil, nil, []int{0, 1, 0, 0, 1, 0}), 2), 0, goneAll(3), 2, 1, 0)
	isDropped(t, slowGraph(nodesOf(nil, nil, []int{0, 1, 0, 0, 1, 1}), 2), 0, goneAll(3), 2, 0, 1)
}

// What a node held that goes goes ahead of what stands behind it.
func TestPromise10OrderOfGoing(t *testing.T) {
	for _, x := range []struct {
		nodes []impl.Node
		gone  []int
	}{
		{nodesOf(nil, nil, nil, []int{0, 1, 2}), []int{3, 0, 1, 2}},
		{nodesOf(nil, nil, nil, []int{2, 0, 1}), []int{3, 2, 0, 1}},
		{nodesOf(nil, nil, []int{0}, []int{1}, []int{2, 3}), []int{4, 2, 0, 3, 1}},
		{nodesOf(nil, nil, []int{0}, []int{1}, []int{3, 2}), []int{4, 3, 1, 2, 0}},
		{nodesOf(nil, []int{0}, []int{0, 1}), []int{2, 1, 0}},
		{nodesOf(nil, []int{0}, []int{1, 0}), []int{2, 1, 0}},
		{nodesOf(nil, nil, []int{0, 1}, []int{2, 0}), []int{3, 2, 1, 0}},
		{nodesOf(nil, nil, []int{0, 1}, []int{0, 2}), []int{3, 2, 0, 1}},
		{nodesOf(nil, nil, []int{1, 0}, []int{0}, []int{3, 2}), []int{4, 3, 2, 1, 0}},
		{nodesOf(nil, nil, nil, nil, nil, nil, []int{4, 0, 5, 2, 1, 3}), []int{6, 4, 0, 5, 2, 1, 3}},
		{nodesOf(nil, nil, nil, []int{1, 0}, []int{2}, []int{4, 3, 4, 3}), []int{5, 4, 2, 3, 1, 0}},
	} {
		last := len(x.nodes) - 1
		isDropped(t, slowGraph(x.nodes, last), 0, goneAll(last+1), x.gone...)
		isSwept(t, slowGraph(x.nodes), bitsOf(1<<(last+1)-1))
		up := append(cloneNodes(x.nodes), impl.Node{Holds: []int{last}})
		isUnlinked(t, slowGraph(up, last+1), last+1, 0, slowGraph(append(goneAll(last+1).Nodes, impl.Node{}), last+1), x.gone...)
	}
}

func TestPromise10KnownUnlinks(t *testing.T) {
	g := slowGraph(nodesOf(nil, []int{0}, []int{1, 0, 1}, []int{2, 0}), 3)
	isUnlinked(t, g, 2, 0, slowGraph(nodesOf(nil, []int{0}, []int{0, 1}, []int{2, 0}), 3))
	isUnlinked(t, g, 2, 1, slowGraph(nodesOf(nil, []int{0}, []int{1, 1}, []int{2, 0}), 3))
	isUnlinked(t, g, 2, 2, slowGraph(nodesOf(nil, []int{0}, []int{1, 0}, []int{2, 0}), 3))
	isUnlinked(t, g, 1, 0, slowGraph(nodesOf(nil, nil, []int{1, 0, 1}, []int{2, 0}), 3))
	isUnlinked(t, g, 3, 1, slowGraph(nodesOf(nil, []int{0}, []int{1, 0, 1}, []int{2}), 3))
	isUnlinked(t, g, 3, 0, slowGraph([]impl.Node{{}, goneNode, goneNode, {Holds: []int{0}}}, 3), 2, 1)
	six := nodesOf(nil, nil, nil, nil, nil, nil, []int{5, 3, 1, 0, 2, 4})
	for at := range 6 {
		left, n := cloneNodes(six), six[6].Holds[at]
		left[6].Holds = slices.Delete(left[6].Holds, at, at+1)
		isUnlinked(t, slowGraph(six, 6, n), 6, at, slowGraph(left, 6, n))
		left = cloneNodes(left)
		left[n] = goneNode
		isUnlinked(t, slowGraph(six, 6), 6, at, slowGraph(left, 6), n)
	}
}

func TestPromise10PlacesThatAreNotThere(t *testing.T) {
	g := slowGraph([]impl.Node{{}, goneNode, {Holds: []int{0}}, {Holds: []int{2, 0, 0, 2, 0, 2}}}, 3)
	for from, long := range []int{0, 0, 1, 6} {
		for _, at := range []int{long, long + 1, 6, 7, -1, -long, -6, 1 << 32, math.MinInt, math.MaxInt} {
			if at != 0 || long == 0 {
				refusedUnlink(t, g, from, at)
			}
		}
	}
	for _, from := range []int{4, 5, 13, 14, -1, -4, 1 << 32, math.MinInt, math.MaxInt} {
		for _, at := range []int{0, 1, -1, from} {
			refusedUnlink(t, g, from, at)
		}
	}
	refusedUnlink(t, impl.Graph{}, 0, 0)
}

func TestPromise10KnownSweeps(t *testing.T) {
	isSwept(t, impl.Graph{}, nil)
	isSwept(t, goneAll(14), nil)
	isSwept(t, slowGraph(nodesOf(nil)), []int{0})
	isSwept(t, slowGraph(chainOf(14), 13), nil)
	isSwept(t, slowGraph(chainOf(14), 13, 0, 13, 5, 5, 5), nil)
	isSwept(t, slowGraph(chainOf(14)), bitsOf(1<<14-1))
	for k := range 14 {
		isSwept(t, slowGraph(chainOf(14), k), bitsOf(1<<14 - 1)[k+1:])
		isSwept(t, slowGraph(make([]impl.Node, 14), k, k), slices.Delete(bitsOf(1<<14-1), k, k+1))
	}
	isSwept(t, slowGraph(nodesOf(nil, []int{0}, []int{0}, []int{2, 1}), 1), []int{2, 3})
	isSwept(t, slowGraph(nodesOf(nil, []int{0}, []int{0}, []int{2, 1}), 0, 2), []int{1, 3})
	isSwept(t, slowGraph([]impl.Node{goneNode, {}, {}, goneNode, {Holds: []int{2}}, {Holds: []int{1}}, goneNode}, 4), []int{1, 5})
	// One that is held, but by nobody that is come to.
	isSwept(t, slowGraph(nodesOf(nil, []int{0, 0, 0}, []int{1, 0}), 0), []int{1, 2})
}

func TestPromise10SweepsWhateverTheCounts(t *testing.T) {
	for _, counts := range [][]int{nil, {0}, {9, 9, 9}, {1, 1, 1, 1}, {0, 0, 0, 0}, {-1, -1, -1, -1}, {math.MinInt, math.MaxInt, 0, 1}, make([]int, 100)} {
		for roots, gone := range map[int][]int{0: {1, 2, 3}, 1: {2, 3}, 2: {3}} {
			isSwept(t, impl.Graph{Nodes: chainOf(4), Roots: []int{roots}, Counts: counts}, gone)
		}
		isSwept(t, impl.Graph{Nodes: chainOf(4), Counts: counts}, []int{0, 1, 2, 3})
		isSwept(t, impl.Graph{Nodes: chainOf(4), Roots: []int{3, 0}, Counts: counts}, nil)
		isSwept(t, impl.Graph{Nodes: nil, Counts: counts}, nil)
	}
}

// checkLost holds what goes by counts against what is not come to any more.
func checkLost(t *testing.T, g impl.Graph, x impl.Graph, gone []int) {
	t.Helper()
	want := slices.DeleteFunc(slowReached(g.Nodes, g.Roots), func(n int) bool { return slices.Contains(slowReached(x.Nodes, x.Roots), n) })
	sorted := slices.Sorted(slices.Values(gone))
	if !slices.Equal(sorted, want) || !impl.GoodGraph(x) {
		t.Fatalf("%v becomes %v: %v go, not %v", g, x, gone, want)
	}
}

// checkSameSweep takes a graph in which a name is gone, and looks whether it becomes the same by looking.
func checkSameSweep(t *testing.T, nodes []impl.Node, roots []int, x impl.Graph, gone []int) {
	t.Helper()
	swept, l, ok := impl.SweepGraph(impl.Graph{Nodes: nodes, Roots: roots})
	if !sameGraph(swept, x) || !slices.Equal(l, slices.Sorted(slices.Values(gone))) || !ok {
		t.Fatalf("%v %v by looking: %v %v %v, by counts: %v %v", nodes, roots, swept, l, ok, x, gone)
	}
}

func checkDrop(t *testing.T, g impl.Graph, k int) {
	t.Helper()
	want, wantGone, wantOk := slowDrop(g, k)
	x, gone, ok := impl.DropRoot(g, k)
	if !sameGraph(x, want) || !slices.Equal(gone, wantGone) || ok != wantOk {
		t.Fatalf("DropRoot %v %d: %v %v %v, want %v %v %v", g, k, x, gone, ok, want, wantGone, wantOk)
	}
	if ok {
		checkLost(t, g, x, gone)
		checkSameSweep(t, g.Nodes, slices.Delete(slices.Clone(g.Roots), k, k+1), x, gone)
	}
}

func checkUnlink(t *testing.T, g impl.Graph, from int, at int) {
	t.Helper()
	want, wantGone, wantOk := slowUnlink(g, from, at)
	x, gone, ok := impl.UnlinkNode(g, from, at)
	if !sameGraph(x, want) || !slices.Equal(gone, wantGone) || ok != wantOk {
		t.Fatalf("UnlinkNode %v %d %d: %v %v %v, want %v %v %v", g, from, at, x, gone, ok, want, wantGone, wantOk)
	}
	if ok {
		checkLost(t, g, x, gone)
		nodes := cloneNodes(g.Nodes)
		nodes[from].Holds = slices.Delete(nodes[from].Holds, at, at+1)
		checkSameSweep(t, nodes, g.Roots, x, gone)
	}
}

func checkHold(t *testing.T, g impl.Graph, node int) {
	t.Helper()
	want, wantOk := slowHold(g, node)
	if x, ok := impl.HoldRoot(g, node); !sameGraph(x, want) || ok != wantOk || impl.GoodGraph(x) != (ok || isNoGraph(x)) {
		t.Fatalf("HoldRoot %v %d: %v %v, want %v %v", g, node, x, ok, want, wantOk)
	}
}

func checkLink(t *testing.T, g impl.Graph, from int, to int) {
	t.Helper()
	want, wantOk := slowLink(g, from, to)
	if x, ok := impl.LinkNode(g, from, to); !sameGraph(x, want) || ok != wantOk || impl.GoodGraph(x) != (ok || isNoGraph(x)) {
		t.Fatalf("LinkNode %v %d %d: %v %v, want %v %v", g, from, to, x, ok, want, wantOk)
	}
}

func checkSweep(t *testing.T, g impl.Graph) {
	t.Helper()
	want, wantGone, wantOk := slowSweep(g)
	x, gone, ok := impl.SweepGraph(g)
	if !sameGraph(x, want) || !slices.Equal(gone, wantGone) || ok != wantOk || ok && !impl.GoodGraph(x) {
		t.Fatalf("SweepGraph %v: %v %v %v, want %v %v %v", g, x, gone, ok, want, wantGone, wantOk)
	}
	if again, gone, _ := impl.SweepGraph(x); !sameGraph(again, x) || len(gone) != 0 {
		t.Fatalf("SweepGraph twice %v: %v %v", g, again, gone)
	}
}

// checkMade holds what is told of nodes and roots, and of the graph, against the model.
func checkMade(t *testing.T, g impl.Graph) {
	t.Helper()
	are, made, counts := areSlowNodes(g.Nodes, g.Roots), impl.Graph{}, []int(nil)
	if are {
		counts = slowCounts(g.Nodes, g.Roots)
	}
	if l, ok := impl.CountsOf(g.Nodes, g.Roots); !slices.Equal(l, counts) || ok != are {
		t.Fatalf("CountsOf %v: %v %v, want %v %v", g, l, ok, counts, are)
	}
	isNew := are && isSlowGraph(slowGraph(g.Nodes, g.Roots...))
	if isNew {
		made = slowGraph(g.Nodes, g.Roots...)
	}
	if x, ok := impl.NewGraph(g.Nodes, g.Roots); !sameGraph(x, made) || ok != isNew {
		t.Fatalf("NewGraph %v: %v %v, want %v %v", g, x, ok, made, isNew)
	}
	isGood, reached := isSlowGraph(g), []int(nil)
	if isGood {
		reached = slowReached(g.Nodes, g.Roots)
	}
	if l, ok := impl.ReachedIn(g); !slices.Equal(l, reached) || ok != isGood || impl.GoodGraph(g) != isGood {
		t.Fatalf("ReachedIn %v: %v %v, want %v %v", g, l, ok, reached, isGood)
	}
}

// checkGraph asks everything of a graph, good or not, at all places and a few that are not there.
func checkGraph(t *testing.T, g impl.Graph) {
	t.Helper()
	checkMade(t, g)
	checkSweep(t, g)
	for k := -1; k <= len(g.Roots)+1; k++ {
		checkDrop(t, g, k)
	}
	for from := -1; from <= len(g.Nodes)+1; from++ {
		checkHold(t, g, from)
		for to := -1; to <= max(len(g.Nodes)+1, 7); to++ {
			checkLink(t, g, from, to)
			checkUnlink(t, g, from, to)
		}
	}
}

// fewNodes has each list of at most 4 nodes that hold at most 2, or are Gone; some hold what is Gone.
func fewNodes() [][]impl.Node {
	l := [][]impl.Node{nil}
	for n, last := 0, [][]impl.Node{nil}; n < 4; n++ {
		next := [][]impl.Node{}
		for _, nodes := range last {
			add := func(node impl.Node) { next = append(next, append(slices.Clone(nodes), node)) }
			add(goneNode)
			for long := range 3 {
				eachList(long, bitsOf(1<<n-1), func(held []int) { add(impl.Node{Holds: slices.Clone(held)}) })
			}
		}
		l, last = append(l, next...), next
	}
	return l
}

func TestPromise10EveryFewNodes(t *testing.T) {
	good := 0
	for _, nodes := range fewNodes() {
		for n := range 4 {
			eachList(n, bitsOf(1<<len(nodes)-1), func(roots []int) {
				g := slowGraph(nodes, slices.Clone(roots)...)
				checkMade(t, g)
				checkSweep(t, g)
				if isSlowGraph(g) {
					good++
					checkGraph(t, g)
				}
			})
		}
	}
	if good < 5000 {
		t.Error("too few good ones", good)
	}
}

// someNodes has n nodes, as said, that hold at most so many, some of them Gone where that is asked for.
func someNodes(n int, most int, withGone bool, seed int) []impl.Node {
	b := textOf(8*n, seed)
	nodes := make([]impl.Node, n)
	for k := range nodes {
		own := b[8*k : 8*k+8]
		if withGone && own[7]%4 == 0 {
			nodes[k] = goneNode
			continue
		}
		for _, c := range []byte(own[:int(own[6])%(most+1)]) {
			if k > 0 && !nodes[int(c)%k].Gone {
				nodes[k].Holds = append(nodes[k].Holds, int(c)%k)
			}
		}
	}
	return nodes
}

// someGraphs are as said, also where some of their nodes are not come to; their Counts are right.
func someGraphs(seed int) impl.Graph {
	n := seed%14 + 1
	nodes := someNodes(n, seed/3%7, seed%5 < 2, seed)
	roots := []int{}
	for _, c := range []byte(textOf(seed%7, seed+1)) {
		if k := max(int(c)%n, int(c)/16%n); !nodes[k].Gone {
			roots = append(roots, k)
		}
	}
	return slowGraph(nodes, roots...)
}

func TestPromise10ManyNodes(t *testing.T) {
	good, big := 0, 0
	for seed := range 1500 {
		g := someGraphs(seed)
		checkGraph(t, g)
		swept, _, _ := slowSweep(g)
		checkGraph(t, swept)
		good += bitOf(isSlowGraph(g))
		big += bitOf(len(slowReached(swept.Nodes, swept.Roots)) > 8)
	}
	if good < 100 || good > 1400 || big < 100 {
		t.Error("too few of one kind", good, big)
	}
}

// In a walk names come and go, till nothing is left; each step is held against the model.
func TestPromise10Walks(t *testing.T) {
	left, going := 0, 0
	for seed := range 200 {
		g, _, _ := impl.SweepGraph(slowGraph(someNodes(14, 3, false, seed), 13, 12, 11, 10))
		for step, c := range []byte(textOf(120, seed)) {
			x := impl.Graph{}
			b, ok, was := textOf(2, seed+97*step), false, len(slowReached(g.Nodes, g.Roots))
			from, to := int(b[0])%15, int(b[1])%15
			switch c % 8 {
			case 0, 1:
				checkHold(t, g, from)
				x, ok = impl.HoldRoot(g, from)
			case 2, 3, 4:
				checkLink(t, g, from, to)
				x, ok = impl.LinkNode(g, from, to)
			case 5:
				checkDrop(t, g, to%7)
				x, _, ok = impl.DropRoot(g, to%7)
			default:
				checkUnlink(t, g, from, to%7)
				x, _, ok = impl.UnlinkNode(g, from, to%7)
			}
			if ok {
				g = x
				isReached(t, g, slowReached(g.Nodes, g.Roots)...)
				going += bitOf(len(slowReached(g.Nodes, g.Roots)) < was)
			}
		}
		left += bitOf(len(slowReached(g.Nodes, g.Roots)) > 0)
		for len(g.Roots) > 0 {
			checkDrop(t, g, seed%len(g.Roots))
			g, _, _ = impl.DropRoot(g, seed%len(g.Roots))
		}
		if !sameGraph(g, goneAll(14)) {
			t.Fatal("something is left without roots", g)
		}
	}
	if left < 20 || going < 200 {
		t.Error("too little comes and goes", left, going)
	}
}

// What a name more brings goes again with it.
func TestPromise10NamesThatComeAndGo(t *testing.T) {
	for seed := range 300 {
		g, _, _ := slowSweep(someGraphs(seed))
		for node := range g.Nodes {
			if x, ok := impl.HoldRoot(g, node); ok {
				isDropped(t, x, len(g.Roots), g)
			}
			for to := range node {
				if x, ok := impl.LinkNode(g, node, to); ok {
					isUnlinked(t, x, node, len(g.Nodes[node].Holds), g)
				}
			}
		}
	}
}
