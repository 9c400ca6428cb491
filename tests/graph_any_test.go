package tests

import (
	"math"
	"slices"
	"testing"

	"loop.example/g00405/impl"
)

// anyGraphs are good ones, ones that are not, and ones that are good but for their Counts.
func anyGraphs() []impl.Graph {
	l := append(slices.Concat(notNodes(), notCounted()), impl.Graph{}, spoiltGraph(func(g *impl.Graph) {}), goneAll(1), goneAll(14), slowGraph(chainOf(14), 13), slowGraph(chainOf(14), 13, 0, 0, 0, 5, 13))
	for seed := range 56 {
		g := someGraphs(seed)
		swept, _, _ := slowSweep(g)
		l = append(l, g, swept, impl.Graph{Nodes: swept.Nodes, Roots: swept.Roots, Counts: valuesOf(seed%16, seed)})
	}
	return append(l, oddGraphs()...)
}

// oddGraphs have anything in their lists, mostly not as said.
func oddGraphs() []impl.Graph {
	numbers := []int{0, 1, 2, 3, -1, 5, 14, 1 << 32, math.MinInt, math.MaxInt}
	l := []impl.Graph{{Roots: numbers}, {Counts: numbers}, {Nodes: nodesOf(numbers)}, {Nodes: make([]impl.Node, 5000), Roots: make([]int, 5000), Counts: make([]int, 5000)}}
	for seed := range 56 {
		b := []byte(textOf(80, seed))
		g := impl.Graph{}
		for k := range int(b[0]) % 17 {
			node := impl.Node{Gone: b[k+1]%5 == 0}
			for _, c := range b[20+k : 20+k+int(b[k+1])%3] {
				node.Holds = append(node.Holds, numbers[int(c)%len(numbers)])
			}
			g.Nodes = append(g.Nodes, node)
		}
		for _, c := range b[40 : 40+int(b[1])%8] {
			g.Roots = append(g.Roots, numbers[int(c)%(4+seed%7)])
		}
		g.Counts = slowCounts(g.Nodes, g.Roots)
		l = append(l, g)
	}
	return l
}

// smallGraphs leaves out those of which many copies take long.
func smallGraphs() []impl.Graph {
	return slices.DeleteFunc(anyGraphs(), func(g impl.Graph) bool { return len(g.Nodes) > 20 })
}

func anyPlaces() []int {
	return append(anyNumbers(), 5, 6, 12, 13, 14, 15, -6, -13, -14)
}

func TestPromise19GraphsOfAnything(t *testing.T) {
	for _, g := range anyGraphs() {
		checkMade(t, g)
		checkSweep(t, g)
		for _, k := range anyPlaces() {
			checkDrop(t, g, k)
			checkHold(t, g, k)
			for _, n := range anyPlaces() {
				checkLink(t, g, k, n)
				checkUnlink(t, g, k, n)
			}
		}
	}
}

// heldGraph is a graph with memory behind each of its lists, and a copy of all of it.
type heldGraph struct {
	graph  impl.Graph
	gone   []bool
	holds  []held
	roots  held
	counts held
}

func holdGraph(g impl.Graph, behind int) heldGraph {
	h := heldGraph{roots: hold(g.Roots, behind), counts: hold(g.Counts, behind)}
	nodes := make([]impl.Node, 0, len(g.Nodes)+3)
	for _, node := range append(slices.Clone(g.Nodes), goneNode, impl.Node{Holds: []int{behind, 0}}, impl.Node{}) {
		h.holds = append(h.holds, hold(node.Holds, behind))
		h.gone = append(h.gone, node.Gone)
		nodes = append(nodes, impl.Node{Holds: h.holds[len(h.holds)-1].list, Gone: node.Gone})
	}
	h.graph = impl.Graph{Nodes: nodes[:len(g.Nodes)], Roots: h.roots.list, Counts: h.counts.list}
	return h
}

func (h heldGraph) stays(t *testing.T) {
	t.Helper()
	for k, node := range h.graph.Nodes[:len(h.gone)] {
		list := h.holds[k].list
		if node.Gone != h.gone[k] || len(node.Holds) != len(list) || cap(node.Holds) != cap(list) || &node.Holds[:1][0] != &list[:1][0] {
			t.Fatal("a node is another one", k, node, list)
		}
		h.holds[k].stays(t)
	}
	h.roots.stays(t)
	h.counts.stays(t)
}

// listsOf has each list of numbers that a graph has.
func listsOf(g impl.Graph) [][]int {
	lists := [][]int{g.Roots, g.Counts}
	for _, node := range g.Nodes {
		lists = append(lists, node.Holds)
	}
	return lists
}

// spoilGraph writes over all memory that an answer has, list by list, and looks whether the others stay.
func spoilGraph(t *testing.T, g impl.Graph, more ...[]int) {
	t.Helper()
	spoilRows(t, append(listsOf(g), more...))
	overwrite(g.Nodes, impl.Node{Holds: []int{-77}, Gone: true})
}

// checkGraphMemory asks for the same answer of a graph with anything behind its lists, all of it new.
func checkGraphMemory(t *testing.T, g impl.Graph, ask func(g impl.Graph) (impl.Graph, []int, bool)) {
	t.Helper()
	x, l, wantOk := ask(cloneGraph(g))
	want, wantList := cloneGraph(x), slices.Clone(l)
	for _, behind := range []int{0, 1, -9} {
		h := holdGraph(g, behind)
		for range 2 {
			x, l, ok := ask(h.graph)
			h.stays(t)
			if !sameGraph(x, want) || !slices.Equal(l, wantList) || ok != wantOk {
				t.Fatalf("reads behind %v, or is another one later: %v %v %v, want %v %v", g, x, l, ok, want, wantList)
			}
			later, last, _ := ask(h.graph)
			spoilGraph(t, x, l)
			h.stays(t)
			if !sameGraph(later, want) || !slices.Equal(last, wantList) {
				t.Fatalf("two answers share memory %v: %v %v", g, later, last)
			}
		}
	}
}

func TestPromise19GraphMemory(t *testing.T) {
	for _, g := range anyGraphs() {
		checkGraphMemory(t, g, func(g impl.Graph) (impl.Graph, []int, bool) {
			x, ok := impl.NewGraph(g.Nodes, g.Roots)
			return x, nil, ok
		})
		checkGraphMemory(t, g, func(g impl.Graph) (impl.Graph, []int, bool) {
			l, ok := impl.CountsOf(g.Nodes, g.Roots)
			return impl.Graph{}, l, ok
		})
		checkGraphMemory(t, g, func(g impl.Graph) (impl.Graph, []int, bool) {
			l, ok := impl.ReachedIn(g)
			return impl.Graph{}, l, ok
		})
		checkGraphMemory(t, g, func(g impl.Graph) (impl.Graph, []int, bool) { return impl.Graph{}, nil, impl.GoodGraph(g) })
		checkGraphMemory(t, g, impl.SweepGraph)
	}
}

func TestPromise19GoingMemory(t *testing.T) {
	for _, g := range smallGraphs() {
		for k := -1; k <= min(len(g.Roots), 7); k++ {
			checkGraphMemory(t, g, func(g impl.Graph) (impl.Graph, []int, bool) { return impl.DropRoot(g, k) })
		}
		for from := -1; from <= min(len(g.Nodes), 15); from++ {
			for at := -1; at < 7; at++ {
				checkGraphMemory(t, g, func(g impl.Graph) (impl.Graph, []int, bool) { return impl.UnlinkNode(g, from, at) })
			}
		}
	}
}

func TestPromise19ComingMemory(t *testing.T) {
	for _, g := range smallGraphs() {
		for node := -1; node <= min(len(g.Nodes), 15); node++ {
			checkGraphMemory(t, g, func(g impl.Graph) (impl.Graph, []int, bool) {
				x, ok := impl.HoldRoot(g, node)
				return x, nil, ok
			})
			for to := -1; to < min(node+2, 15); to++ {
				checkGraphMemory(t, g, func(g impl.Graph) (impl.Graph, []int, bool) {
					x, ok := impl.LinkNode(g, node, to)
					return x, nil, ok
				})
			}
		}
	}
}

// Lists of a graph may be one: what is answered is what it is for copies, and none is written into.
func TestPromise19SharedGraphs(t *testing.T) {
	one := []int{1, 1, 0, 0}
	whole := []int{0, 1, 0, 1, 2, 1}
	for _, g := range []impl.Graph{
		{Nodes: nodesOf(nil, nil, one, one, one[:2]), Roots: []int{4, 3, 2, 2}, Counts: []int{4, 6, 2, 1, 1}},
		{Nodes: nodesOf(nil, whole[:1], whole[:2], whole[1:5]), Roots: []int{3}, Counts: []int{3, 3, 1, 1}},
		{Nodes: nodesOf(nil, nil), Roots: one[:2], Counts: one[:2]},
		{Nodes: nodesOf(nil, nil, one[:2]), Roots: one[1:3], Counts: []int{1, 3, 0}},
		{Nodes: nodesOf(nil, one[2:]), Roots: one, Counts: []int{4, 2}},
		{Nodes: append(nodesOf(nil, nil), goneNode), Roots: []int{1, 0, 1}, Counts: []int{1, 2, 0}},
		{Nodes: nodesOf(nil), Roots: one[2:3], Counts: one[:1]},
	} {
		apart := cloneGraph(g)
		checkGraph(t, g)
		for k := range 6 {
			for _, ask := range []func() (impl.Graph, []int, bool){
				func() (impl.Graph, []int, bool) { x, ok := impl.NewGraph(g.Nodes, g.Roots); return x, nil, ok },
				func() (impl.Graph, []int, bool) { x, ok := impl.HoldRoot(g, k); return x, nil, ok },
				func() (impl.Graph, []int, bool) { x, ok := impl.LinkNode(g, k, 0); return x, nil, ok },
				func() (impl.Graph, []int, bool) { return impl.DropRoot(g, k) },
				func() (impl.Graph, []int, bool) { return impl.UnlinkNode(g, k, 0) },
				func() (impl.Graph, []int, bool) { return impl.SweepGraph(g) },
			} {
				x, l, _ := ask()
				spoilGraph(t, x, l)
				if !sameGraph(g, apart) {
					t.Fatalf("written into %v %v", g, apart)
				}
			}
		}
	}
	if !slices.Equal(one, []int{1, 1, 0, 0}) || !slices.Equal(whole, []int{0, 1, 0, 1, 2, 1}) {
		t.Error(one, whole)
	}
}
