package impl

const FieldPoly = 285
const FieldSize = 256

// The powers of x that an element can have, by their bits.
const (
	x0 = 1 << iota
	x1
	x2
	x3
	x4
	x5
	x6
	x7
)

const elementBits = 8
const maxPower = 100000
const maxPoly = 40

// highRests has what FieldPoly leaves of x to the 8, to the 9 and so on: a
// product of two elements goes up to x to the 14, no further.
var highRests = [7]int{
	x4 | x3 | x2 | x0,
	x5 | x4 | x3 | x1,
	x6 | x5 | x4 | x2,
	x7 | x6 | x5 | x3,
	x7 | x6 | x3 | x2 | x0,
	x7 | x2 | x1 | x0,
	x4 | x1 | x0,
}

func AddGf(a int, b int) (int, bool) {
	if !isElement(a) || !isElement(b) {
		return 0, false
	}
	return a ^ b, true
}

func MulGf(a int, b int) (int, bool) {
	if !isElement(a) || !isElement(b) {
		return 0, false
	}
	return mulElements(a, b), true
}

func DivGf(a int, b int) (int, bool) {
	if !isElement(a) || !isElement(b) || b == 0 {
		return 0, false
	}
	return mulElements(a, inverseOf(b)), true
}

func PowGf(a int, n int) (int, bool) {
	if !isElement(a) || n < 0 || n > maxPower {
		return 0, false
	}
	return powElement(a, n), true
}

func ExpTable() []int {
	l := make([]int, FieldSize-1)
	power := 1
	for n := range l {
		l[n] = power
		power = mulElements(power, x1)
	}
	return l
}

func LogTable() []int {
	l := make([]int, FieldSize)
	power := 1
	for n := range FieldSize - 1 {
		l[power] = n
		power = mulElements(power, x1)
	}
	return l
}

func OrderGf(a int) (int, bool) {
	if !isElement(a) || a == 0 {
		return 0, false
	}
	n := 1
	for power := a; power != 1; power = mulElements(power, a) {
		n++
	}
	return n, true
}

func EvalGf(p []int, x int) (int, bool) {
	if !isPoly(p) || !isElement(x) {
		return 0, false
	}
	value := 0
	for k := len(p) - 1; k >= 0; k-- {
		value = mulElements(value, x) ^ p[k]
	}
	return value, true
}

func MulPoly(p []int, q []int) ([]int, bool) {
	if !isPoly(p) || !isPoly(q) {
		return nil, false
	}
	if len(p) == 0 || len(q) == 0 {
		return nil, true
	}
	if len(p)+len(q)-1 > maxPoly {
		return nil, false
	}
	product := make([]int, len(p)+len(q)-1)
	for k, factor := range p {
		addMultiple(product, q, factor, k)
	}
	return product, true
}

func DivPoly(p []int, q []int) ([]int, []int, bool) {
	if !isPoly(p) || !isPoly(q) || len(q) == 0 {
		return nil, nil, false
	}
	if len(p) < len(q) {
		return nil, withoutEndNoughts(p), true
	}
	left := make([]int, len(p))
	copy(left, p)
	quotient := make([]int, len(p)-len(q)+1)
	head := inverseOf(q[len(q)-1])
	for k := len(quotient) - 1; k >= 0; k-- {
		quotient[k] = mulElements(left[k+len(q)-1], head)
		addMultiple(left, q, quotient[k], k)
	}
	return quotient, withoutEndNoughts(left), true
}

func isElement(a int) bool {
	return a >= 0 && a < FieldSize
}

func areElements(l []int) bool {
	for _, a := range l {
		if !isElement(a) {
			return false
		}
	}
	return true
}

func isPoly(p []int) bool {
	if len(p) > maxPoly || !areElements(p) {
		return false
	}
	return len(p) == 0 || p[len(p)-1] != 0
}

// mulElements takes elements only, as all below it do.
func mulElements(a int, b int) int {
	wide := 0
	for k := range elementBits {
		if b>>k&1 == 1 {
			wide ^= a << k
		}
	}
	product := wide % FieldSize
	for k := range len(highRests) {
		if wide>>(elementBits+k)&1 == 1 {
			product ^= highRests[k]
		}
	}
	return product
}

// powElement squares on the way, so that a great n costs no more than its bits.
func powElement(a int, n int) int {
	power := 1
	for square := a; n > 0; n /= 2 {
		if n%2 == 1 {
			power = mulElements(power, square)
		}
		square = mulElements(square, square)
	}
	return power
}

// inverseOf needs no search: each element but 0 is 1 to the power of how many
// there are of these, so one time fewer is its inverse.
func inverseOf(a int) int {
	return powElement(a, FieldSize-2)
}

// addMultiple adds to sum the multiple of q by factor, from the place at on.
func addMultiple(sum []int, q []int, factor int, at int) {
	for k, a := range q {
		sum[at+k] ^= mulElements(factor, a)
	}
}

// withoutEndNoughts answers new memory of just that length: nothing of l is
// handed out behind it.
func withoutEndNoughts(l []int) []int {
	n := len(l)
	for n > 0 && l[n-1] == 0 {
		n--
	}
	short := make([]int, n)
	copy(short, l)
	return short
}
