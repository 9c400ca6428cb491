package tests

import (
	"math"
	"slices"
	"testing"

	"loop.example/g00405/impl"
)

// slowProduct is the chapter's own sentence: the product of two polynomials over two elements, and its rest by FieldPoly.
func slowProduct(a int, b int) int {
	wide := 0
	for k := range 8 {
		if b&(1<<k) != 0 {
			wide ^= a << k
		}
	}
	for k := 14; k >= 8; k-- {
		if wide&(1<<k) != 0 {
			wide ^= impl.FieldPoly << (k - 8)
		}
	}
	return wide
}

func slowPower(a int, n int) int {
	power := 1
	for range n {
		power = slowProduct(power, a)
	}
	return power
}

// polyOf makes a polynomial of n elements, another one for each seed, with noughts in it.
func polyOf(n int, seed int) []int {
	p := make([]int, n)
	for k := range p {
		seed = (seed*1103515245 + 12345) % 2147483648
		p[k] = seed / 65536 % 256
		if seed/512%5 == 0 {
			p[k] = 0
		}
	}
	if n > 0 && p[n-1] == 0 {
		p[n-1] = 1 + seed%255
	}
	return p
}

func slowPolyProduct(p []int, q []int) []int {
	var product []int
	for i := range p {
		for k := range q {
			for len(product) <= i+k {
				product = append(product, 0)
			}
			product[i+k] ^= slowProduct(p[i], q[k])
		}
	}
	return product
}

func notElements() []int {
	return []int{-1, 256, 257, -256, 1 << 32, math.MinInt, math.MaxInt}
}

func notPolys() [][]int {
	l := [][]int{
		{0}, {1, 0}, {0, 0, 0}, append(polyOf(39, 3), 0),
		polyOf(41, 5), polyOf(200, 6), append(make([]int, 40), 1), make([]int, 41),
	}
	for _, a := range notElements() {
		l = append(l, []int{a}, []int{a, 1}, []int{1, a, 1}, append(polyOf(39, 4), a))
	}
	return l
}

func TestPromise1Constants(t *testing.T) {
	if impl.FieldPoly != 285 || impl.FieldSize != 256 {
		t.Error(impl.FieldPoly, impl.FieldSize)
	}
}

func TestPromise1SumsAndProductsOfAllPairs(t *testing.T) {
	for a := range 256 {
		for b := range 256 {
			if s, ok := impl.AddGf(a, b); s != a^b || !ok {
				t.Fatal("AddGf", a, b, s, ok)
			}
			p, ok := impl.MulGf(a, b)
			if p != slowProduct(a, b) || !ok {
				t.Fatal("MulGf", a, b, p, ok)
			}
			if (p == 0) != (a == 0 || b == 0) {
				t.Fatal("a nought beside 0", a, b)
			}
		}
	}
}

func TestPromise1KnownProducts(t *testing.T) {
	for _, x := range [][3]int{
		{0, 0, 0}, {0, 255, 0}, {1, 255, 255}, {255, 1, 255}, {2, 128, 29}, {128, 128, 19},
		{2, 142, 1}, {3, 7, 9}, {16, 16, 29}, {255, 255, 226},
	} {
		if p, ok := impl.MulGf(x[0], x[1]); p != x[2] || !ok {
			t.Error(x, p, ok)
		}
	}
}

func TestPromise1Laws(t *testing.T) {
	mul := func(a int, b int) int { p, _ := impl.MulGf(a, b); return p }
	add := func(a int, b int) int { s, _ := impl.AddGf(a, b); return s }
	for a := range 256 {
		if add(a, 0) != a || add(a, a) != 0 || mul(a, 1) != a || mul(a, 0) != 0 {
			t.Fatal(a)
		}
		for b := 0; b < 256; b += 3 {
			if add(a, b) != add(b, a) || mul(a, b) != mul(b, a) {
				t.Fatal(a, b)
			}
			for c := 0; c < 256; c += 15 {
				if mul(mul(a, b), c) != mul(a, mul(b, c)) || add(add(a, b), c) != add(a, add(b, c)) {
					t.Fatal("associative", a, b, c)
				}
				if mul(a, add(b, c)) != add(mul(a, b), mul(a, c)) {
					t.Fatal("distributive", a, b, c)
				}
			}
		}
	}
}

func TestPromise1Quotients(t *testing.T) {
	for a := range 256 {
		for b := 1; b < 256; b++ {
			if c, ok := impl.DivGf(a, b); !ok || c < 0 || c > 255 || slowProduct(b, c) != a {
				t.Fatal(a, b, c, ok)
			}
		}
		if c, ok := impl.DivGf(a, 0); c != 0 || ok {
			t.Fatal("by 0", a, c, ok)
		}
	}
}

func TestPromise1Powers(t *testing.T) {
	for a := range 256 {
		power := 1
		for n := range 600 {
			if p, ok := impl.PowGf(a, n); p != power || !ok {
				t.Fatal(a, n, p, ok)
			}
			power = slowProduct(power, a)
		}
	}
	for _, a := range []int{0, 1, 2, 3, 29, 254, 255} {
		for _, n := range []int{65535, 65536, 99999, 100000} {
			if p, ok := impl.PowGf(a, n); p != slowPower(a, n) || !ok {
				t.Error(a, n, p, ok)
			}
		}
		for _, n := range []int{-1, 100001, math.MinInt, math.MaxInt} {
			if p, ok := impl.PowGf(a, n); p != 0 || ok {
				t.Error(a, n, p, ok)
			}
		}
	}
}

func TestPromise1TwoMakesAllButZero(t *testing.T) {
	e, l := impl.ExpTable(), impl.LogTable()
	if len(e) != 255 || len(l) != 256 || l[0] != 0 || e[0] != 1 {
		t.Fatal(e, l)
	}
	seen := [256]bool{}
	power := 1
	for n, x := range e {
		if x != power || x == 0 || seen[x] || l[x] != n {
			t.Fatal(n, x)
		}
		seen[x] = true
		power = slowProduct(power, 2)
	}
	if power != 1 {
		t.Error("2 to the 255", power)
	}
}

func TestPromise1Orders(t *testing.T) {
	for a := 1; a < 256; a++ {
		want, power := 1, a
		for power != 1 {
			power = slowProduct(power, a)
			want++
		}
		if n, ok := impl.OrderGf(a); n != want || !ok || 255%n != 0 {
			t.Fatal(a, n, ok)
		}
	}
	if n, ok := impl.OrderGf(1); n != 1 || !ok {
		t.Error(n, ok)
	}
	if n, ok := impl.OrderGf(0); n != 0 || ok {
		t.Error(n, ok)
	}
}

func TestPromise1Values(t *testing.T) {
	for _, n := range []int{0, 1, 2, 3, 17, 39, 40} {
		p := polyOf(n, n+1)
		for x := range 256 {
			want := 0
			for k, a := range p {
				want ^= slowProduct(a, slowPower(x, k))
			}
			if v, ok := impl.EvalGf(p, x); v != want || !ok {
				t.Fatal(p, x, v, ok)
			}
		}
	}
}

func TestPromise1PolyProducts(t *testing.T) {
	for n := range 41 {
		for m := range 41 {
			p, q := polyOf(n, n*41+m), polyOf(m, n+m*41+7)
			got, ok := impl.MulPoly(p, q)
			if n > 0 && m > 0 && n+m-1 > 40 {
				if len(got) != 0 || ok {
					t.Fatal("more than 40", n, m, got, ok)
				}
				continue
			}
			if !slices.Equal(got, slowPolyProduct(p, q)) || !ok {
				t.Fatal(p, q, got, ok)
			}
		}
	}
}

func TestPromise1PolyQuotients(t *testing.T) {
	for n := range 41 {
		for m := 1; m <= 40; m++ {
			checkQuotient(t, polyOf(n, n*43+m), polyOf(m, n+m*43+9))
		}
	}
}

func checkQuotient(t *testing.T, p []int, q []int) {
	t.Helper()
	quotient, rest, ok := impl.DivPoly(p, q)
	if !ok || len(rest) >= len(q) {
		t.Fatal(p, q, quotient, rest, ok)
	}
	for _, l := range [][]int{quotient, rest} {
		if len(l) > 0 && l[len(l)-1] == 0 {
			t.Fatal("ends with 0", p, q, l)
		}
	}
	back := slowPolyProduct(quotient, q)
	for len(back) < len(p) {
		back = append(back, 0)
	}
	for k, a := range rest {
		back[k] ^= a
	}
	if !slices.Equal(back, p) {
		t.Fatal(p, q, quotient, rest)
	}
}

func TestPromise1QuotientsWithoutRest(t *testing.T) {
	for n := 1; n <= 40; n++ {
		for m := 1; n+m-1 <= 40; m++ {
			p, q := polyOf(n, n*7+m), polyOf(m, n+m*7+2)
			quotient, rest, ok := impl.DivPoly(slowPolyProduct(p, q), q)
			if !slices.Equal(quotient, p) || len(rest) != 0 || !ok {
				t.Fatal(p, q, quotient, rest, ok)
			}
		}
	}
}

func TestPromise1RestsWithNoughtsAtTheirEnd(t *testing.T) {
	q := []int{3, 1, 4, 1}
	for _, rest := range [][]int{{}, {9}, {0, 9}, {9, 9, 9}} {
		p := slowPolyProduct([]int{5, 0, 7}, q)
		for k, a := range rest {
			p[k] ^= a
		}
		quotient, got, ok := impl.DivPoly(p, q)
		if !slices.Equal(quotient, []int{5, 0, 7}) || !slices.Equal(got, rest) || !ok {
			t.Error(rest, quotient, got, ok)
		}
	}
}
