package tests

import (
	"math"
	"slices"
	"testing"

	"loop.example/g03211/impl"
)

func boolRing() impl.Ring             { return impl.Ring{Kind: impl.RBool} }
func modRing(p int) impl.Ring         { return impl.Ring{Kind: impl.RMod, P: p} }
func capRing(p int) impl.Ring         { return impl.Ring{Kind: impl.RCap, P: p} }
func minRing(p int) impl.Ring         { return impl.Ring{Kind: impl.RMin, P: p} }
func wideRing(p int) impl.Ring        { return impl.Ring{Kind: impl.RWide, P: p} }
func setRing(n int) impl.Ring         { return impl.Ring{Kind: impl.RSet, N: n} }
func polyRing(p int, n int) impl.Ring { return impl.Ring{Kind: impl.RPoly, P: p, N: n} }
func omegaRing(p int) impl.Ring       { return impl.Ring{Kind: impl.ROmega, P: p} }

// ringCases names the width, the greatest integer, the zero and the one of
// rings, the least and the greatest ones of each kind among them.
var ringCases = []struct {
	r     impl.Ring
	width int
	top   int
	zero  []int
	one   []int
}{
	{boolRing(), 1, 1, []int{0}, []int{1}},
	{modRing(2), 1, 1, []int{0}, []int{1}},
	{modRing(3), 1, 2, []int{0}, []int{1}},
	{modRing(7), 1, 6, []int{0}, []int{1}},
	{modRing(999983), 1, 999982, []int{0}, []int{1}},
	{modRing(1000003), 1, 1000002, []int{0}, []int{1}},
	{capRing(1), 1, 1, []int{0}, []int{1}},
	{capRing(2), 1, 2, []int{0}, []int{1}},
	{capRing(6), 1, 6, []int{0}, []int{1}},
	{capRing(1000000), 1, 1000000, []int{0}, []int{1}},
	{minRing(1), 1, 1, []int{1}, []int{0}},
	{minRing(2), 1, 2, []int{2}, []int{0}},
	{minRing(6), 1, 6, []int{6}, []int{0}},
	{minRing(1000000), 1, 1000000, []int{1000000}, []int{0}},
	{wideRing(1), 1, 1, []int{0}, []int{1}},
	{wideRing(2), 1, 2, []int{0}, []int{2}},
	{wideRing(6), 1, 6, []int{0}, []int{6}},
	{wideRing(1000000), 1, 1000000, []int{0}, []int{1000000}},
	{setRing(1), 1, 1, []int{0}, []int{1}},
	{setRing(2), 1, 3, []int{0}, []int{3}},
	{setRing(3), 1, 7, []int{0}, []int{7}},
	{setRing(20), 1, 1048575, []int{0}, []int{1048575}},
	{polyRing(2, 1), 1, 1, []int{0}, []int{1}},
	{polyRing(2, 3), 3, 1, []int{0, 0, 0}, []int{1, 0, 0}},
	{polyRing(3, 2), 2, 2, []int{0, 0}, []int{1, 0}},
	{polyRing(2, 6), 6, 1, []int{0, 0, 0, 0, 0, 0}, []int{1, 0, 0, 0, 0, 0}},
	{polyRing(1000003, 1), 1, 1000002, []int{0}, []int{1}},
	{polyRing(1000003, 6), 6, 1000002, []int{0, 0, 0, 0, 0, 0}, []int{1, 0, 0, 0, 0, 0}},
	{omegaRing(3), 4, 2, []int{0, 0, 0, 0}, []int{1, 0, 0, 0}},
	{omegaRing(17), 4, 16, []int{0, 0, 0, 0}, []int{1, 0, 0, 0}},
	{omegaRing(1000003), 4, 1000002, []int{0, 0, 0, 0}, []int{1, 0, 0, 0}},
}

var notRings = []impl.Ring{
	{},
	{Kind: -1},
	{Kind: 9},
	{Kind: 9, P: 7, N: 1},
	{Kind: math.MinInt},
	{Kind: math.MaxInt, P: 3},
	{Kind: impl.RBool, P: 1},
	{Kind: impl.RBool, N: 1},
	{Kind: impl.RBool, P: -1, N: -1},
	{Kind: impl.RMod},
	{Kind: impl.RMod, P: 1},
	{Kind: impl.RMod, P: 4},
	{Kind: impl.RMod, P: 9},
	{Kind: impl.RMod, P: -7},
	{Kind: impl.RMod, P: 1000001},
	{Kind: impl.RMod, P: 1000033}, // the next prime after MaxPrime
	{Kind: impl.RMod, P: math.MaxInt},
	{Kind: impl.RMod, P: math.MinInt},
	{Kind: impl.RMod, P: 7, N: 1},
	{Kind: impl.RMod, P: 7, N: -1},
	{Kind: impl.RCap},
	{Kind: impl.RCap, P: -1},
	{Kind: impl.RCap, P: 1000001},
	{Kind: impl.RCap, P: 5, N: 1},
	{Kind: impl.RCap, P: math.MaxInt},
	{Kind: impl.RMin},
	{Kind: impl.RMin, P: -1},
	{Kind: impl.RMin, P: 1000001},
	{Kind: impl.RMin, P: 5, N: -1},
	{Kind: impl.RWide},
	{Kind: impl.RWide, P: -1},
	{Kind: impl.RWide, P: 1000001},
	{Kind: impl.RWide, P: 5, N: 1},
	{Kind: impl.RSet},
	{Kind: impl.RSet, N: -1},
	{Kind: impl.RSet, N: 21},
	{Kind: impl.RSet, N: 64},
	{Kind: impl.RSet, N: math.MinInt},
	{Kind: impl.RSet, N: math.MaxInt},
	{Kind: impl.RSet, P: 1, N: 3},
	{Kind: impl.RSet, P: 3, N: 3},
	{Kind: impl.RPoly, N: 2},
	{Kind: impl.RPoly, P: 1, N: 2},
	{Kind: impl.RPoly, P: 4, N: 2},
	{Kind: impl.RPoly, P: 1000033, N: 2},
	{Kind: impl.RPoly, P: 5},
	{Kind: impl.RPoly, P: 5, N: -1},
	{Kind: impl.RPoly, P: 5, N: 7},
	{Kind: impl.RPoly, P: 5, N: math.MaxInt},
	{Kind: impl.ROmega},
	{Kind: impl.ROmega, P: 1},
	{Kind: impl.ROmega, P: 2},
	{Kind: impl.ROmega, P: 9},
	{Kind: impl.ROmega, P: 1000033},
	{Kind: impl.ROmega, P: 17, N: 1},
	{Kind: impl.ROmega, P: 17, N: 4},
	{Kind: impl.ROmega, P: 17, N: -1},
}

// primesUpTo sieves: it returns, for each number up to n, whether it is prime.
func primesUpTo(n int) []bool {
	prime := make([]bool, n+1)
	for k := 2; k <= n; k++ {
		prime[k] = true
	}
	for k := 2; k <= n; k++ {
		for m := k + k; prime[k] && m <= n; m += k {
			prime[m] = false
		}
	}
	return prime
}

func TestConstantsOfRings(t *testing.T) {
	sameList(t, "the limits", []int{impl.MaxPrime, impl.MaxCap, impl.MaxPower}, []int{1000003, 1000000, 1000})
	kinds := []int{impl.RBool, impl.RMod, impl.RCap, impl.RMin, impl.RWide, impl.RSet, impl.RPoly, impl.ROmega}
	sameList(t, "the kinds", kinds, []int{1, 2, 3, 4, 5, 6, 7, 8})
}

func TestIsPrime(t *testing.T) {
	for n, want := range primesUpTo(1000003) {
		if got := impl.IsPrime(n); got != want {
			t.Errorf("IsPrime(%d): %t", n, got)
		}
	}
	for n := -1000; n < 0; n++ {
		if impl.IsPrime(n) {
			t.Errorf("IsPrime(%d)", n)
		}
	}
	// Some of these are primes, but greater than MaxPrime.
	for _, n := range []int{
		1000004, 1000033, 1000037, 1000039, 2147483647, 4294967291, 1<<32 + 2, 1<<32 + 3, 1<<61 - 1, math.MaxInt,
		-1000003, -2147483647, math.MinInt, math.MinInt + 2, math.MinInt + 3,
	} {
		if impl.IsPrime(n) {
			t.Errorf("IsPrime(%d)", n)
		}
	}
}

func TestRingOkAndWidth(t *testing.T) {
	for _, c := range ringCases {
		if !impl.RingOk(c.r) || impl.RingWidth(c.r) != c.width {
			t.Errorf("%v: %t, width %d", c.r, impl.RingOk(c.r), impl.RingWidth(c.r))
		}
	}
	for _, r := range notRings {
		if impl.RingOk(r) || impl.RingWidth(r) != 0 {
			t.Errorf("%v: %t, width %d", r, impl.RingOk(r), impl.RingWidth(r))
		}
	}
}

// widthByText is the width of a ring as chapter 3 says it; 0 if it is none.
func widthByText(r impl.Ring, prime bool) int {
	capped := r.P >= 1 && r.P <= 1000000
	ok := false
	width := 1
	switch r.Kind {
	case 1:
		ok = r.P == 0 && r.N == 0
	case 2:
		ok = prime && r.N == 0
	case 3, 4, 5:
		ok = capped && r.N == 0
	case 6:
		ok = r.P == 0 && r.N >= 1 && r.N <= 20
	case 7:
		ok = prime && r.N >= 1 && r.N <= 6
		width = r.N
	case 8:
		ok = prime && r.P != 2 && r.N == 0
		width = 4
	}
	if !ok {
		return 0
	}
	return width
}

func TestRingOkOfManyRings(t *testing.T) {
	ps := []int{math.MinInt, math.MinInt + 1, -1000003, 999979, 999983, 999999, 1000000, 1000001, 1000002, 1000003, 1000004, 1000033, 1<<32 + 7, math.MaxInt}
	ns := []int{math.MinInt, math.MinInt + 1, 31, 32, 62, 63, 64, 65, 1<<32 + 1, math.MaxInt}
	for k := -4; k <= 40; k++ {
		ps = append(ps, k)
		ns = append(ns, k)
	}
	primes := primesUpTo(1000003)
	for _, p := range ps {
		prime := p >= 0 && p < len(primes) && primes[p]
		for kind := -3; kind <= 12; kind++ {
			for _, n := range ns {
				r := impl.Ring{Kind: kind, P: p, N: n}
				want := widthByText(r, prime)
				if impl.RingOk(r) != (want > 0) || impl.RingWidth(r) != want {
					t.Errorf("%v: %t, width %d", r, impl.RingOk(r), impl.RingWidth(r))
				}
			}
		}
	}
}

func TestZeroAndOne(t *testing.T) {
	for _, c := range ringCases {
		if zero := impl.ZeroOf(c.r); !slices.Equal(zero, c.zero) || !impl.ElemOk(c.r, zero) {
			t.Errorf("ZeroOf(%v): %v", c.r, zero)
		}
		if one := impl.OneOf(c.r); !slices.Equal(one, c.one) || !impl.ElemOk(c.r, one) {
			t.Errorf("OneOf(%v): %v", c.r, one)
		}
	}
}

// notElems returns lists that are no elements of the ring, with a width and a
// greatest integer as said.
func notElems(width int, top int) [][]int {
	bad := [][]int{nil, {}, make([]int, width+1), make([]int, width-1), make([]int, 2*width), make([]int, 100)}
	for i := range width {
		for _, n := range []int{-1, -top, top + 1, -top - 1, 1<<32 + top, 1 << 62, math.MinInt, math.MaxInt} {
			x := make([]int, width)
			x[i] = n
			bad = append(bad, x)
		}
	}
	return bad
}

// edgeElems returns elements with the integers that are the most likely to be
// treated wrongly, at each place and everywhere, and some others.
func edgeElems(r impl.Ring, width int, top int) [][]int {
	var elems [][]int
	add := func(x []int) {
		if !slices.ContainsFunc(elems, func(y []int) bool { return slices.Equal(x, y) }) {
			elems = append(elems, x)
		}
	}
	for _, n := range []int{0, 1, 2, top / 2, top/2 + 1, top - 1, top} {
		if n < 0 || n > top {
			continue
		}
		add(slices.Repeat([]int{n}, width))
		for i := range width {
			x := make([]int, width)
			x[i] = n
			add(x)
		}
	}
	seed := r.Kind*1000 + r.P + r.N
	for range 6 {
		x := make([]int, width)
		for i := range x {
			seed = (seed*1103515245 + 12345) % (1 << 31)
			x[i] = seed / 8 % (top + 1)
		}
		add(x)
	}
	return elems
}

// allElems returns all the elements, if they are not too many, and otherwise
// those of edgeElems.
func allElems(r impl.Ring, width int, top int) [][]int {
	count := 1
	for range width {
		if count *= top + 1; count > 81 {
			return edgeElems(r, width, top)
		}
	}
	var elems [][]int
	for k := range count {
		x := make([]int, width)
		for i := range x {
			x[i] = k % (top + 1)
			k /= top + 1
		}
		elems = append(elems, x)
	}
	return elems
}

func TestElemOk(t *testing.T) {
	for _, c := range ringCases {
		for _, x := range allElems(c.r, c.width, c.top) {
			if !impl.ElemOk(c.r, x) {
				t.Errorf("ElemOk(%v, %v) is false", c.r, x)
			}
		}
		for _, x := range notElems(c.width, c.top) {
			if impl.ElemOk(c.r, x) {
				t.Errorf("ElemOk(%v, %v) is true", c.r, x)
			}
		}
	}
	for _, r := range notRings {
		for _, x := range [][]int{nil, {}, {0}, {1}, {0, 0}, {1, 0, 0, 0}, make([]int, 7)} {
			if impl.ElemOk(r, x) {
				t.Errorf("ElemOk(%v, %v) is true", r, x)
			}
		}
	}
}

func TestSumsAndProducts(t *testing.T) {
	for _, c := range []struct {
		r       impl.Ring
		x       []int
		y       []int
		sum     []int
		product []int
	}{
		{boolRing(), []int{0}, []int{0}, []int{0}, []int{0}},
		{boolRing(), []int{0}, []int{1}, []int{1}, []int{0}},
		{boolRing(), []int{1}, []int{1}, []int{1}, []int{1}},
		{modRing(2), []int{1}, []int{1}, []int{0}, []int{1}},
		{modRing(7), []int{5}, []int{4}, []int{2}, []int{6}},
		{modRing(7), []int{3}, []int{4}, []int{0}, []int{5}},
		{modRing(7), []int{3}, []int{2}, []int{5}, []int{6}},
		{modRing(1000003), []int{1000002}, []int{1000002}, []int{1000001}, []int{1}},
		{modRing(1000003), []int{500002}, []int{2}, []int{500004}, []int{1}},
		{capRing(1), []int{1}, []int{1}, []int{1}, []int{1}},
		{capRing(10), []int{2}, []int{3}, []int{5}, []int{6}},
		{capRing(10), []int{4}, []int{6}, []int{10}, []int{10}},
		{capRing(10), []int{2}, []int{5}, []int{7}, []int{10}},
		{capRing(10), []int{10}, []int{0}, []int{10}, []int{0}},
		{capRing(1000000), []int{1000000}, []int{1000000}, []int{1000000}, []int{1000000}},
		{capRing(1000000), []int{999}, []int{1001}, []int{2000}, []int{999999}},
		{minRing(1), []int{0}, []int{1}, []int{0}, []int{1}},
		{minRing(9), []int{5}, []int{6}, []int{5}, []int{9}},
		{minRing(9), []int{5}, []int{3}, []int{3}, []int{8}},
		{minRing(9), []int{9}, []int{0}, []int{0}, []int{9}},
		{minRing(9), []int{4}, []int{5}, []int{4}, []int{9}},
		{minRing(1000000), []int{1000000}, []int{1000000}, []int{1000000}, []int{1000000}},
		{wideRing(9), []int{5}, []int{6}, []int{6}, []int{5}},
		{wideRing(9), []int{9}, []int{0}, []int{9}, []int{0}},
		{wideRing(1000000), []int{1000000}, []int{999999}, []int{1000000}, []int{999999}},
		{setRing(1), []int{1}, []int{0}, []int{1}, []int{0}},
		{setRing(4), []int{12}, []int{10}, []int{14}, []int{8}},
		{setRing(4), []int{5}, []int{10}, []int{15}, []int{0}},
		{setRing(20), []int{524289}, []int{1048575}, []int{1048575}, []int{524289}},
		{polyRing(5, 1), []int{3}, []int{4}, []int{2}, []int{2}},
		{polyRing(5, 2), []int{1, 2}, []int{3, 4}, []int{4, 1}, []int{3, 0}},
		{polyRing(7, 3), []int{1, 2, 3}, []int{4, 5, 6}, []int{5, 0, 2}, []int{4, 6, 0}},
		{polyRing(7, 3), []int{0, 1, 0}, []int{0, 0, 1}, []int{0, 1, 1}, []int{0, 0, 0}},
		{polyRing(2, 3), []int{1, 1, 0}, []int{1, 1, 0}, []int{0, 0, 0}, []int{1, 0, 1}},
		{polyRing(1000003, 6), slices.Repeat([]int{1000002}, 6), slices.Repeat([]int{1000002}, 6), slices.Repeat([]int{1000001}, 6), []int{1, 2, 3, 4, 5, 6}},
		{omegaRing(17), []int{0, 1, 0, 0}, []int{0, 0, 0, 1}, []int{0, 1, 0, 1}, []int{16, 0, 0, 0}},
		{omegaRing(17), []int{0, 0, 1, 0}, []int{0, 0, 0, 1}, []int{0, 0, 1, 1}, []int{0, 16, 0, 0}},
		{omegaRing(17), []int{0, 0, 0, 1}, []int{0, 0, 0, 1}, []int{0, 0, 0, 2}, []int{0, 0, 16, 0}},
		{omegaRing(17), []int{0, 1, 0, 0}, []int{0, 1, 0, 0}, []int{0, 2, 0, 0}, []int{0, 0, 1, 0}},
		{omegaRing(17), []int{1, 2, 3, 4}, []int{5, 6, 7, 8}, []int{6, 8, 10, 12}, []int{12, 15, 2, 9}},
		{omegaRing(1000003), slices.Repeat([]int{1000002}, 4), slices.Repeat([]int{1000002}, 4), slices.Repeat([]int{1000001}, 4), []int{1000001, 0, 2, 4}},
	} {
		if got := impl.AddElem(c.r, c.x, c.y); !slices.Equal(got, c.sum) {
			t.Errorf("AddElem(%v, %v, %v): %v, not %v", c.r, c.x, c.y, got, c.sum)
		}
		if got := impl.MulElem(c.r, c.x, c.y); !slices.Equal(got, c.product) {
			t.Errorf("MulElem(%v, %v, %v): %v, not %v", c.r, c.x, c.y, got, c.product)
		}
	}
}

func capped(n int, p int) int {
	if n > p {
		return p
	}
	return n
}

// bitwise goes through the bits that two sets may have.
func bitwise(x int, y int, both bool) int {
	set := 0
	for i := range 20 {
		a, b := x>>i%2 == 1, y>>i%2 == 1
		if a && b || !both && (a || b) {
			set += 1 << i
		}
	}
	return set
}

// wantedSum and wantedProduct follow the text of chapter 3, kind by kind.
func wantedSum(r impl.Ring, x []int, y []int) []int {
	switch r.Kind {
	case impl.RCap:
		return []int{capped(x[0]+y[0], r.P)}
	case impl.RMin:
		return []int{capped(x[0], y[0])}
	case impl.RWide:
		return []int{x[0] + y[0] - capped(x[0], y[0])}
	case impl.RBool, impl.RSet:
		return []int{bitwise(x[0], y[0], false)}
	}
	sum := make([]int, len(x))
	for i := range x {
		sum[i] = (x[i] + y[i]) % r.P
	}
	return sum
}

func wantedProduct(r impl.Ring, x []int, y []int) []int {
	switch r.Kind {
	case impl.RCap:
		return []int{capped(x[0]*y[0], r.P)}
	case impl.RMin:
		return []int{capped(x[0]+y[0], r.P)}
	case impl.RWide:
		return []int{capped(x[0], y[0])}
	case impl.RBool, impl.RSet:
		return []int{bitwise(x[0], y[0], true)}
	}
	width := len(x)
	long := make([]int, 2*width)
	for k := range x {
		for i := range y {
			long[k+i] = (long[k+i] + x[k]*y[i]%r.P) % r.P
		}
	}
	for k := width; k < 2*width && r.Kind == impl.ROmega; k++ {
		long[k-width] = (long[k-width] + r.P - long[k]) % r.P
	}
	return long[:width]
}

func TestSumsAndProductsOfManyElements(t *testing.T) {
	for _, c := range ringCases {
		elems := allElems(c.r, c.width, c.top)
		for _, x := range elems {
			for _, y := range elems {
				if got, want := impl.AddElem(c.r, x, y), wantedSum(c.r, x, y); !slices.Equal(got, want) {
					t.Fatalf("AddElem(%v, %v, %v): %v, not %v", c.r, x, y, got, want)
				}
				if got, want := impl.MulElem(c.r, x, y), wantedProduct(c.r, x, y); !slices.Equal(got, want) {
					t.Fatalf("MulElem(%v, %v, %v): %v, not %v", c.r, x, y, got, want)
				}
			}
		}
	}
}

// lawsHold checks what makes a ring a commutative semiring.
func lawsHold(r impl.Ring, x []int, y []int, z []int) bool {
	add := func(a []int, b []int) []int { return impl.AddElem(r, a, b) }
	mul := func(a []int, b []int) []int { return impl.MulElem(r, a, b) }
	zero, one := impl.ZeroOf(r), impl.OneOf(r)
	return impl.ElemOk(r, add(x, y)) && impl.ElemOk(r, mul(x, y)) &&
		slices.Equal(add(x, zero), x) && slices.Equal(mul(x, one), x) && slices.Equal(mul(x, zero), zero) &&
		slices.Equal(add(x, y), add(y, x)) && slices.Equal(mul(x, y), mul(y, x)) &&
		slices.Equal(add(add(x, y), z), add(x, add(y, z))) && slices.Equal(mul(mul(x, y), z), mul(x, mul(y, z))) &&
		slices.Equal(mul(x, add(y, z)), add(mul(x, y), mul(x, z)))
}

func TestLawsOfRings(t *testing.T) {
	t.Parallel()
	for _, c := range ringCases {
		// A prime near MaxPrime is looked for anew in every call.
		elems := edgeElems(c.r, c.width, c.top)
		if len(elems) > 14 {
			elems = elems[len(elems)-14:]
		}
		for _, x := range elems {
			for _, y := range elems {
				for _, z := range elems {
					if !lawsHold(c.r, x, y, z) {
						t.Fatalf("%v: the laws do not hold for %v, %v and %v", c.r, x, y, z)
					}
				}
			}
		}
	}
}

func TestInvalidTerms(t *testing.T) {
	for _, c := range ringCases {
		good := c.one
		for _, bad := range notElems(c.width, c.top) {
			for _, pair := range [][2][]int{{bad, good}, {good, bad}, {bad, bad}, {c.zero, bad}, {bad, c.zero}} {
				if got := impl.AddElem(c.r, pair[0], pair[1]); got != nil {
					t.Errorf("AddElem(%v, %v): %v, not nil", c.r, pair, got)
				}
				if got := impl.MulElem(c.r, pair[0], pair[1]); got != nil {
					t.Errorf("MulElem(%v, %v): %v, not nil", c.r, pair, got)
				}
			}
			for _, l := range [][][]int{{bad}, {bad, good}, {good, bad}, {good, bad, good}, {bad, bad}} {
				if got := impl.SumElems(c.r, l); got != nil {
					t.Errorf("SumElems(%v, %v): %v, not nil", c.r, l, got)
				}
			}
			for _, n := range []int{-1, 0, 1, 2, impl.MaxPower, impl.MaxPower + 1} {
				if got := impl.PowElem(c.r, bad, n); got != nil {
					t.Errorf("PowElem(%v, %v, %d): %v, not nil", c.r, bad, n, got)
				}
			}
		}
	}
}

func TestInvalidRings(t *testing.T) {
	for _, r := range notRings {
		if impl.ZeroOf(r) != nil || impl.OneOf(r) != nil {
			t.Errorf("%v has a zero or a one", r)
		}
		for _, x := range [][]int{nil, {0}, {1}, {0, 0}, {1, 0, 0}, {0, 0, 0, 0}} {
			if impl.AddElem(r, x, x) != nil || impl.MulElem(r, x, x) != nil || impl.SumElems(r, [][]int{x, x}) != nil {
				t.Errorf("%v has a sum or a product of %v", r, x)
			}
			for _, n := range []int{-1, 0, 1, 2, impl.MaxPower} {
				if got := impl.PowElem(r, x, n); got != nil {
					t.Errorf("PowElem(%v, %v, %d): %v, not nil", r, x, n, got)
				}
			}
		}
		if impl.SumElems(r, nil) != nil || impl.SumElems(r, [][]int{}) != nil {
			t.Errorf("%v has a sum of no elements", r)
		}
		for _, n := range []int{math.MinInt, -1, 0, 1, 2, math.MaxInt} {
			if got := impl.CountElem(r, n); got != nil {
				t.Errorf("CountElem(%v, %d): %v, not nil", r, n, got)
			}
		}
	}
}

func TestSumElems(t *testing.T) {
	for _, c := range []struct {
		r    impl.Ring
		l    [][]int
		want []int
	}{
		{boolRing(), [][]int{{0}, {0}}, []int{0}},
		{boolRing(), [][]int{{0}, {1}, {1}}, []int{1}},
		{modRing(7), [][]int{{6}, {6}, {6}, {5}}, []int{2}},
		{capRing(10), [][]int{{3}, {0}, {4}}, []int{7}},
		{capRing(10), [][]int{{3}, {4}, {5}}, []int{10}},
		{minRing(10), [][]int{{3}, {2}, {10}}, []int{2}},
		{wideRing(10), [][]int{{3}, {8}, {2}}, []int{8}},
		{setRing(4), [][]int{{1}, {8}, {1}}, []int{9}},
		{polyRing(5, 3), [][]int{{1, 2, 3}, {4, 4, 4}, {1, 0, 1}}, []int{1, 1, 3}},
		{omegaRing(3), [][]int{{1, 2, 0, 1}, {2, 2, 0, 0}, {1, 0, 0, 0}}, []int{1, 1, 0, 1}},
	} {
		if got := impl.SumElems(c.r, c.l); !slices.Equal(got, c.want) {
			t.Errorf("SumElems(%v, %v): %v, not %v", c.r, c.l, got, c.want)
		}
	}
	for _, c := range ringCases {
		elems := edgeElems(c.r, c.width, c.top)
		sum := slices.Clone(c.zero)
		for i := range elems {
			if got := impl.SumElems(c.r, elems[:i]); !slices.Equal(got, sum) {
				t.Errorf("SumElems(%v, %v): %v, not %v", c.r, elems[:i], got, sum)
			}
			sum = wantedSum(c.r, sum, elems[i])
		}
		if got := impl.SumElems(c.r, nil); !slices.Equal(got, c.zero) {
			t.Errorf("SumElems(%v) of nothing: %v", c.r, got)
		}
	}
}

func TestCountElem(t *testing.T) {
	for _, c := range ringCases {
		sum := slices.Clone(c.zero)
		for n := range 300 {
			if got := impl.CountElem(c.r, n); !slices.Equal(got, sum) {
				t.Fatalf("CountElem(%v, %d): %v, not %v", c.r, n, got, sum)
			}
			sum = wantedSum(c.r, sum, c.one)
		}
		for _, n := range []int{-1, -2, -7, -1 << 32, math.MinInt, math.MinInt + 1, -math.MaxInt} {
			if got := impl.CountElem(c.r, n); got != nil {
				t.Errorf("CountElem(%v, %d): %v, not nil", c.r, n, got)
			}
		}
	}
}

// count is the sum of n ones in closed form, where n is at least 1.
func count(r impl.Ring, one []int, n int) []int {
	x := slices.Clone(one)
	switch r.Kind {
	case impl.RCap:
		x[0] = capped(n, r.P)
	case impl.RMod, impl.RPoly, impl.ROmega:
		x[0] = n % r.P
	}
	return x
}

func TestCountElemOfGreatNumbers(t *testing.T) {
	numbers := []int{math.MaxInt - 2, math.MaxInt - 1, math.MaxInt, 999982, 999983, 999984, 999999, 1000000, 1000001, 1000002, 1000003, 1000004, 2000006}
	for bit := range 63 {
		numbers = append(numbers, 1<<bit, 1<<bit+1<<(bit/2))
	}
	for _, c := range ringCases {
		for _, n := range numbers {
			if got, want := impl.CountElem(c.r, n), count(c.r, c.one, n); !slices.Equal(got, want) {
				t.Errorf("CountElem(%v, %d): %v, not %v", c.r, n, got, want)
			}
		}
	}
	for _, c := range []struct {
		r    impl.Ring
		want []int
	}{
		{boolRing(), []int{1}},
		{modRing(2), []int{1}},
		{modRing(7), []int{0}},
		{capRing(1000000), []int{1000000}},
		{minRing(9), []int{0}},
		{wideRing(9), []int{9}},
		{setRing(5), []int{31}},
		{polyRing(5, 3), []int{2, 0, 0}},
		{omegaRing(5), []int{2, 0, 0, 0}},
	} {
		if got := impl.CountElem(c.r, math.MaxInt); !slices.Equal(got, c.want) {
			t.Errorf("CountElem(%v) of the greatest int: %v, not %v", c.r, got, c.want)
		}
	}
}

func TestPowElem(t *testing.T) {
	for _, c := range []struct {
		r    impl.Ring
		x    []int
		n    int
		want []int
	}{
		{boolRing(), []int{0}, 0, []int{1}},
		{boolRing(), []int{0}, 1000, []int{0}},
		{modRing(7), []int{3}, 3, []int{6}},
		{modRing(7), []int{0}, 0, []int{1}},
		{modRing(7), []int{3}, 1000, []int{4}},
		{modRing(2), []int{1}, 1000, []int{1}},
		{capRing(1000), []int{3}, 6, []int{729}},
		{capRing(1000), []int{3}, 7, []int{1000}},
		{capRing(1000000), []int{1000000}, 1000, []int{1000000}},
		{minRing(1000), []int{0}, 1000, []int{0}},
		{minRing(1000), []int{1}, 999, []int{999}},
		{minRing(1000000), []int{999}, 1000, []int{999000}},
		{minRing(1000), []int{334}, 3, []int{1000}},
		{wideRing(9), []int{4}, 0, []int{9}},
		{wideRing(9), []int{4}, 1000, []int{4}},
		{setRing(4), []int{6}, 0, []int{15}},
		{setRing(4), []int{6}, 5, []int{6}},
		{polyRing(7, 3), []int{1, 1, 0}, 4, []int{1, 4, 6}},
		{polyRing(7, 3), []int{0, 1, 0}, 2, []int{0, 0, 1}},
		{polyRing(7, 3), []int{0, 1, 0}, 3, []int{0, 0, 0}},
		{polyRing(1000003, 6), []int{1, 1, 0, 0, 0, 0}, 5, []int{1, 5, 10, 10, 5, 1}},
		{omegaRing(17), []int{0, 1, 0, 0}, 4, []int{16, 0, 0, 0}},
		{omegaRing(17), []int{0, 1, 0, 0}, 7, []int{0, 0, 0, 16}},
		{omegaRing(17), []int{0, 1, 0, 0}, 8, []int{1, 0, 0, 0}},
		{omegaRing(17), []int{0, 0, 0, 1}, 1000, []int{1, 0, 0, 0}},
	} {
		if got := impl.PowElem(c.r, c.x, c.n); !slices.Equal(got, c.want) {
			t.Errorf("PowElem(%v, %v, %d): %v, not %v", c.r, c.x, c.n, got, c.want)
		}
	}
}

func TestPowElemOfManyElements(t *testing.T) {
	for _, c := range ringCases {
		elems := edgeElems(c.r, c.width, c.top)
		for _, x := range elems[max(0, len(elems)-12):] {
			power := slices.Clone(c.one)
			for n := range 1001 {
				// All the small exponents, and all near the greatest one.
				if n < 20 || n > 990 || n%97 == 0 {
					if got := impl.PowElem(c.r, x, n); !slices.Equal(got, power) {
						t.Fatalf("PowElem(%v, %v, %d): %v, not %v", c.r, x, n, got, power)
					}
				}
				power = wantedProduct(c.r, power, x)
			}
			for _, n := range []int{-1, -2, 1001, 1002, 1024, 1 << 32, math.MaxInt, math.MinInt} {
				if got := impl.PowElem(c.r, x, n); got != nil {
					t.Errorf("PowElem(%v, %v, %d): %v, not nil", c.r, x, n, got)
				}
			}
		}
	}
}

// ringResults returns the results of all functions that return elements.
func ringResults(r impl.Ring, x []int, y []int, l [][]int) [][]int {
	return [][]int{
		impl.ZeroOf(r),
		impl.OneOf(r),
		impl.AddElem(r, x, y),
		impl.AddElem(r, x, x),
		impl.MulElem(r, x, y),
		impl.MulElem(r, y, y),
		impl.SumElems(r, nil),
		impl.SumElems(r, l[:1]),
		impl.SumElems(r, l),
		impl.CountElem(r, 0),
		impl.CountElem(r, 1),
		impl.CountElem(r, 5),
		impl.PowElem(r, x, 0),
		impl.PowElem(r, x, 1),
		impl.PowElem(r, y, 1),
		impl.PowElem(r, x, 7),
	}
}

func sameLists(a [][]int, b [][]int) bool {
	return slices.EqualFunc(a, b, func(x []int, y []int) bool { return slices.Equal(x, y) })
}

func TestElemsStay(t *testing.T) {
	for _, c := range ringCases {
		elems := edgeElems(c.r, c.width, c.top)
		x, y, z := elems[len(elems)-1], elems[len(elems)/2], c.one
		spareX, spareY, spareZ := withSpare(x, -9), withSpare(y, -9), withSpare(z, -9)
		spareL := withSpare([][]int{spareX, spareY, spareZ}, nil)
		first := ringResults(c.r, spareX, spareY, spareL)
		wanted := make([][]int, len(first))
		for i, result := range first {
			wanted[i] = slices.Clone(result)
		}
		// What a result shared with an argument or with another result would change here.
		for i, result := range first {
			if !slices.Equal(result, wanted[i]) {
				t.Errorf("%v: result %d shares memory with another one", c.r, i)
			}
			spoil(result, -5)
		}
		for i, elem := range [][]int{x, y, z} {
			spare := [][]int{spareX, spareY, spareZ}[i]
			sameList(t, "an element", spare[:c.width+3], append(slices.Clone(elem), -9, -9, -9))
		}
		if !sameLists(spareL[:6], [][]int{x, y, z, nil, nil, nil}) {
			t.Errorf("%v: the list has become %v", c.r, spareL[:6])
		}
		if again := ringResults(c.r, spareX, spareY, spareL); !sameLists(again, wanted) {
			t.Errorf("%v: the second time the results are %v, not %v", c.r, again, wanted)
		}
	}
}

func TestInvalidElemsStay(t *testing.T) {
	r := omegaRing(17)
	bad := withSpare([]int{1, 2, 3, 17}, -9)
	good := withSpare([]int{1, 2, 3, 4}, -9)
	l := withSpare([][]int{good, bad}, nil)
	impl.ElemOk(r, bad)
	impl.AddElem(r, good, bad)
	impl.MulElem(r, bad, good)
	impl.SumElems(r, l)
	impl.PowElem(r, bad, 3)
	sameList(t, "the invalid element", bad[:7], []int{1, 2, 3, 17, -9, -9, -9})
	sameList(t, "the valid element", good[:7], []int{1, 2, 3, 4, -9, -9, -9})
	if !sameLists(l[:5], [][]int{good, bad, nil, nil, nil}) {
		t.Errorf("the list has become %v", l[:5])
	}
}
