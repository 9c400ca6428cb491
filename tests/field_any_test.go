package tests

import (
	"math"
	"slices"
	"testing"

	"loop.example/g00405/impl"
)

func isZero(t *testing.T, what string, n int, ok bool, args ...int) {
	t.Helper()
	if n != 0 || ok {
		t.Error(what, args, n, ok)
	}
}

func TestPromise19WrongElements(t *testing.T) {
	for _, bad := range notElements() {
		for _, good := range append([]int{0, 1, 2, 255}, notElements()...) {
			for _, x := range [][2]int{{bad, good}, {good, bad}} {
				n, ok := impl.AddGf(x[0], x[1])
				isZero(t, "AddGf", n, ok, x[0], x[1])
				n, ok = impl.MulGf(x[0], x[1])
				isZero(t, "MulGf", n, ok, x[0], x[1])
				n, ok = impl.DivGf(x[0], x[1])
				isZero(t, "DivGf", n, ok, x[0], x[1])
			}
		}
		for _, n := range []int{0, 1, 100000, -1, math.MaxInt} {
			p, ok := impl.PowGf(bad, n)
			isZero(t, "PowGf", p, ok, bad, n)
		}
		n, ok := impl.OrderGf(bad)
		isZero(t, "OrderGf", n, ok, bad)
		for _, p := range append([][]int{nil, {1}, polyOf(40, 1)}, notPolys()...) {
			n, ok = impl.EvalGf(p, bad)
			isZero(t, "EvalGf", n, ok, bad)
		}
	}
}

func TestPromise19WrongPolys(t *testing.T) {
	for _, bad := range notPolys() {
		for _, x := range []int{0, 1, 255} {
			n, ok := impl.EvalGf(bad, x)
			isZero(t, "EvalGf", n, ok, x)
		}
		for _, good := range append([][]int{nil, {}, {1}, {0, 1}, polyOf(40, 1)}, notPolys()...) {
			for _, x := range [][2][]int{{bad, good}, {good, bad}} {
				if p, ok := impl.MulPoly(x[0], x[1]); len(p) != 0 || ok {
					t.Error("MulPoly", x, p, ok)
				}
				if q, r, ok := impl.DivPoly(x[0], x[1]); len(q) != 0 || len(r) != 0 || ok {
					t.Error("DivPoly", x, q, r, ok)
				}
			}
		}
	}
}

func TestPromise19EmptyPolys(t *testing.T) {
	for _, none := range [][]int{nil, {}} {
		if v, ok := impl.EvalGf(none, 9); v != 0 || !ok {
			t.Error(v, ok)
		}
		for _, p := range [][]int{nil, {7}, polyOf(40, 2)} {
			for _, x := range [][2][]int{{p, none}, {none, p}} {
				if l, ok := impl.MulPoly(x[0], x[1]); len(l) != 0 || !ok {
					t.Error(x, l, ok)
				}
			}
			if q, r, ok := impl.DivPoly(p, none); len(q) != 0 || len(r) != 0 || ok {
				t.Error("by nothing", p, q, r, ok)
			}
			if q, r, ok := impl.DivPoly(none, p); len(q) != 0 || len(r) != 0 || ok != (len(p) > 0) {
				t.Error("of nothing", p, q, r, ok)
			}
		}
	}
}

// held is a list with memory behind its length, and a copy of all of it.
type held struct {
	list  []int
	whole []int
}

func hold(p []int, behind int) held {
	list := append(make([]int, 0, len(p)+5), p...)
	for k := len(p); k < cap(list); k++ {
		list[:cap(list)][k] = behind
	}
	return held{list, slices.Clone(list[:cap(list)])}
}

func (h held) stays(t *testing.T) {
	t.Helper()
	if !slices.Equal(h.list[:cap(h.list)], h.whole) {
		t.Fatal("written into", h.list[:cap(h.list)], h.whole)
	}
}

// spoil writes over all memory that a list has.
func spoil(l []int) {
	l = l[:cap(l)]
	for k := range l {
		l[k] = -77
	}
}

func TestPromise19PolyMemory(t *testing.T) {
	lists := append([][]int{nil, {1}, {7}, {5, 1}, polyOf(9, 3), polyOf(20, 4), polyOf(21, 8), polyOf(40, 5)}, notPolys()...)
	for _, a := range lists {
		for _, b := range lists {
			for _, behind := range []int{0, 1, -9} {
				checkPolyMemory(t, hold(a, behind), hold(b, behind))
			}
		}
	}
}

func checkPolyMemory(t *testing.T, p held, q held) {
	t.Helper()
	wantValue, wantOk := impl.EvalGf(slices.Clip(slices.Clone(p.list)), 3)
	if v, ok := impl.EvalGf(p.list, 3); v != wantValue || ok != wantOk {
		t.Fatal("reads behind", p.list, v, ok)
	}
	product, _ := impl.MulPoly(p.list, q.list)
	quotient, rest, _ := impl.DivPoly(p.list, q.list)
	p.stays(t)
	q.stays(t)
	wasProduct, wasQuotient, wasRest := slices.Clone(product), slices.Clone(quotient), slices.Clone(rest)
	spoil(product)
	spoil(quotient)
	if !slices.Equal(rest, wasRest) {
		t.Fatal("quotient and rest share memory", p.list, q.list)
	}
	spoil(rest)
	p.stays(t)
	q.stays(t)
	product, _ = impl.MulPoly(p.list, q.list)
	quotient, rest, _ = impl.DivPoly(p.list, q.list)
	if !slices.Equal(product, wasProduct) || !slices.Equal(quotient, wasQuotient) || !slices.Equal(rest, wasRest) {
		t.Fatal("a later answer is another one", p.list, q.list)
	}
}

func TestPromise19OneListTwice(t *testing.T) {
	p := hold(polyOf(20, 6), 3)
	if l, ok := impl.MulPoly(p.list, p.list); !ok || !slices.Equal(l, slowPolyProduct(p.list, p.list)) {
		t.Error(l, ok)
	}
	if q, r, ok := impl.DivPoly(p.list, p.list); !ok || !slices.Equal(q, []int{1}) || len(r) != 0 {
		t.Error(q, r, ok)
	}
	p.stays(t)
}

func TestPromise19TableMemory(t *testing.T) {
	e, l := impl.ExpTable(), impl.LogTable()
	wasExp, wasLog := slices.Clone(e), slices.Clone(l)
	laterExp, laterLog := impl.ExpTable(), impl.LogTable()
	spoil(e)
	spoil(l)
	if !slices.Equal(laterExp, wasExp) || !slices.Equal(laterLog, wasLog) {
		t.Error("two answers share memory")
	}
	if !slices.Equal(impl.ExpTable(), wasExp) || !slices.Equal(impl.LogTable(), wasLog) {
		t.Error("a later answer is another one")
	}
	if p, ok := impl.MulGf(2, 128); p != 29 || !ok {
		t.Error("a product hangs on what was handed out", p, ok)
	}
}
