package tests

import (
	"math"
	"slices"
	"testing"

	"loop.example/g03211/impl"
)

type homCase struct {
	from impl.Ring
	to   impl.Ring
	h    impl.Hom
}

func hom(kind int, arg int) impl.Hom { return impl.Hom{Kind: kind, Arg: arg} }

// smallRings are few enough, and small enough, that every pair of them can be
// tried with every homomorphism.
func smallRings() []impl.Ring {
	rings := []impl.Ring{boolRing()}
	for _, p := range []int{2, 3, 5, 7, 17, 41} {
		rings = append(rings, modRing(p))
	}
	for _, p := range []int{1, 2, 3, 6} {
		rings = append(rings, capRing(p), minRing(p), wideRing(p))
	}
	for _, n := range []int{1, 2, 3, 6, 20} {
		rings = append(rings, setRing(n))
	}
	for _, n := range []int{1, 2, 3, 6} {
		rings = append(rings, polyRing(2, n), polyRing(7, n))
	}
	for _, p := range []int{3, 5, 7, 17, 41} {
		rings = append(rings, omegaRing(p))
	}
	return rings
}

// fourthPower is reduced at each product: 1000002 to the power of 4 is beyond
// the greatest int.
func fourthPower(w int, p int) int {
	return w * w % p * w % p * w % p
}

// smallHoms lists chapter 4: all homomorphisms from the small rings. Some of
// them lead to rings that are not among these.
func smallHoms() []homCase {
	var homs []homCase
	for _, r := range smallRings() {
		add := func(to impl.Ring, kind int, arg int) {
			homs = append(homs, homCase{r, to, hom(kind, arg)})
		}
		add(r, impl.HSame, 0)
		switch r.Kind {
		case impl.RBool:
			for p := 1; p <= 6; p++ {
				add(minRing(p), impl.HOne, 0)
				add(wideRing(p), impl.HOne, 0)
			}
			for n := 1; n <= 20; n++ {
				add(setRing(n), impl.HOne, 0)
			}
		case impl.RCap:
			add(boolRing(), impl.HTrue, 0)
			for p := 1; p <= r.P; p++ {
				add(capRing(p), impl.HCut, 0)
			}
		case impl.RMin:
			add(boolRing(), impl.HTrue, 0)
			for p := 1; p <= r.P; p++ {
				add(minRing(p), impl.HCut, 0)
			}
		case impl.RWide:
			for p := 1; p <= r.P; p++ {
				add(boolRing(), impl.HLevel, p)
				add(wideRing(p), impl.HCut, 0)
			}
		case impl.RSet:
			for n := 1; n <= r.N; n++ {
				add(boolRing(), impl.HBit, n-1)
				add(setRing(n), impl.HCut, 0)
			}
		case impl.RPoly:
			add(modRing(r.P), impl.HConst, 0)
			for n := 1; n <= r.N; n++ {
				add(polyRing(r.P, n), impl.HCut, 0)
			}
		case impl.ROmega:
			for w := 1; w < r.P; w++ {
				if fourthPower(w, r.P) == r.P-1 {
					add(modRing(r.P), impl.HRoot, w)
				}
			}
		}
	}
	return homs
}

// greatHoms are homomorphisms between the greatest rings of each kind, and
// from them to small ones. 999961 is the greatest prime with roots.
func greatHoms() []homCase {
	poly := polyRing(1000003, 6)
	return []homCase{
		{modRing(1000003), modRing(1000003), hom(impl.HSame, 0)},
		{poly, poly, hom(impl.HSame, 0)},
		{omegaRing(1000003), omegaRing(1000003), hom(impl.HSame, 0)},
		{capRing(1000000), capRing(1000000), hom(impl.HSame, 0)},
		{capRing(1000000), boolRing(), hom(impl.HTrue, 0)},
		{minRing(1000000), boolRing(), hom(impl.HTrue, 0)},
		{setRing(20), boolRing(), hom(impl.HBit, 0)},
		{setRing(20), boolRing(), hom(impl.HBit, 19)},
		{wideRing(1000000), boolRing(), hom(impl.HLevel, 1)},
		{wideRing(1000000), boolRing(), hom(impl.HLevel, 2)},
		{wideRing(1000000), boolRing(), hom(impl.HLevel, 999999)},
		{wideRing(1000000), boolRing(), hom(impl.HLevel, 1000000)},
		{poly, modRing(1000003), hom(impl.HConst, 0)},
		{omegaRing(999961), modRing(999961), hom(impl.HRoot, 123451)},
		{omegaRing(999961), modRing(999961), hom(impl.HRoot, 379731)},
		{omegaRing(999961), modRing(999961), hom(impl.HRoot, 620230)},
		{omegaRing(999961), modRing(999961), hom(impl.HRoot, 876510)},
		{capRing(1000000), capRing(1000000), hom(impl.HCut, 0)},
		{capRing(1000000), capRing(999999), hom(impl.HCut, 0)},
		{capRing(1000000), capRing(1), hom(impl.HCut, 0)},
		{minRing(1000000), minRing(999999), hom(impl.HCut, 0)},
		{minRing(1000000), minRing(1), hom(impl.HCut, 0)},
		{wideRing(1000000), wideRing(999999), hom(impl.HCut, 0)},
		{wideRing(1000000), wideRing(1), hom(impl.HCut, 0)},
		{setRing(20), setRing(19), hom(impl.HCut, 0)},
		{setRing(20), setRing(1), hom(impl.HCut, 0)},
		{poly, poly, hom(impl.HCut, 0)},
		{poly, polyRing(1000003, 5), hom(impl.HCut, 0)},
		{poly, polyRing(1000003, 1), hom(impl.HCut, 0)},
		{boolRing(), minRing(1000000), hom(impl.HOne, 0)},
		{boolRing(), wideRing(1000000), hom(impl.HOne, 0)},
		{boolRing(), setRing(20), hom(impl.HOne, 0)},
	}
}

// topOf is the greatest integer in the elements of a valid ring.
func topOf(r impl.Ring) int {
	switch r.Kind {
	case impl.RBool:
		return 1
	case impl.RSet:
		top := 1
		for range r.N {
			top *= 2
		}
		return top - 1
	case impl.RCap, impl.RMin, impl.RWide:
		return r.P
	}
	return r.P - 1
}

func elemsOf(r impl.Ring) [][]int {
	return allElems(r, impl.RingWidth(r), topOf(r))
}

func TestConstantsOfHoms(t *testing.T) {
	kinds := []int{impl.HSame, impl.HTrue, impl.HBit, impl.HLevel, impl.HConst, impl.HRoot, impl.HCut, impl.HOne}
	sameList(t, "the kinds", kinds, []int{1, 2, 3, 4, 5, 6, 7, 8})
}

func TestValidHoms(t *testing.T) {
	for _, c := range slices.Concat(smallHoms(), greatHoms()) {
		if !impl.HomOk(c.from, c.to, c.h) {
			t.Errorf("HomOk(%v) is false", c)
		}
	}
}

func TestNoOtherHomsOfSmallRings(t *testing.T) {
	valid := map[homCase]bool{}
	for _, c := range smallHoms() {
		valid[c] = true
	}
	args := []int{math.MinInt, math.MinInt + 1, -1 << 32, 1 << 32, 1<<32 + 2, math.MaxInt - 1, math.MaxInt}
	for arg := -45; arg <= 90; arg++ {
		args = append(args, arg)
	}
	kinds := []int{math.MinInt, -7, -1, 0, 1, 2, 3, 4, 5, 6, 7, 8, 9, 15, 1<<32 + 1, math.MaxInt}
	rings := smallRings()
	for _, from := range rings {
		zero := impl.ZeroOf(from)
		for _, to := range rings {
			for _, kind := range kinds {
				for _, arg := range args {
					c := homCase{from, to, hom(kind, arg)}
					if impl.HomOk(from, to, c.h) != valid[c] {
						t.Fatalf("HomOk(%v): %t", c, !valid[c])
					}
					if got := impl.ApplyHom(from, to, c.h, zero); (got != nil) != valid[c] {
						t.Fatalf("ApplyHom(%v, %v): %v", c, zero, got)
					}
				}
			}
		}
	}
}

func TestRootsOfManyPrimes(t *testing.T) {
	for p, prime := range primesUpTo(400) {
		if !prime || p == 2 {
			continue
		}
		roots := 0
		for w := -p; w <= 2*p; w++ {
			want := w >= 1 && w < p && fourthPower(w, p) == p-1
			if got := impl.HomOk(omegaRing(p), modRing(p), hom(impl.HRoot, w)); got != want {
				t.Errorf("HomOk for %d as a root modulo %d: %t", w, p, got)
			}
			if want {
				roots++
			}
		}
		// The order of w modulo p is 8, and the nonzero numbers are a cyclic group.
		if (roots == 4) != (p%8 == 1) || roots != 0 && roots != 4 {
			t.Errorf("modulo %d there are %d roots", p, roots)
		}
	}
}

func TestNoHoms(t *testing.T) {
	omega, mod := omegaRing(999961), modRing(999961)
	poly := polyRing(1000003, 6)
	for _, c := range []homCase{
		{setRing(20), boolRing(), hom(impl.HBit, -1)},
		{setRing(20), boolRing(), hom(impl.HBit, 20)},
		{setRing(20), boolRing(), hom(impl.HBit, 64)},
		{wideRing(1000000), boolRing(), hom(impl.HLevel, 0)},
		{wideRing(1000000), boolRing(), hom(impl.HLevel, -1)},
		{wideRing(1000000), boolRing(), hom(impl.HLevel, 1000001)},
		{capRing(1000000), boolRing(), hom(impl.HLevel, 1)},
		{minRing(1000000), boolRing(), hom(impl.HLevel, 1)},
		{wideRing(1000000), boolRing(), hom(impl.HTrue, 0)},
		{setRing(20), boolRing(), hom(impl.HTrue, 0)},
		{mod, boolRing(), hom(impl.HTrue, 0)},
		{capRing(1000000), boolRing(), hom(impl.HTrue, 1)},
		{capRing(1000000), capRing(1), hom(impl.HTrue, 0)},
		{poly, modRing(999983), hom(impl.HConst, 0)},
		{poly, polyRing(1000003, 1), hom(impl.HConst, 0)},
		{omega, mod, hom(impl.HConst, 0)},
		{poly, modRing(1000003), hom(impl.HConst, 1)},
		{omega, mod, hom(impl.HRoot, 0)},
		{omega, mod, hom(impl.HRoot, 1)},
		{omega, mod, hom(impl.HRoot, 123450)},
		{omega, mod, hom(impl.HRoot, 123452)},
		{omega, mod, hom(impl.HRoot, 123451-999961)},
		{omega, mod, hom(impl.HRoot, 123451+999961)},
		{omega, mod, hom(impl.HRoot, 999960)},
		{omega, mod, hom(impl.HRoot, 999961)},
		{omega, mod, hom(impl.HRoot, math.MinInt)},
		{omega, mod, hom(impl.HRoot, math.MaxInt)},
		{omega, modRing(17), hom(impl.HRoot, 2)},
		{omegaRing(17), mod, hom(impl.HRoot, 2)},
		{omegaRing(17), mod, hom(impl.HRoot, 123451)},
		{omegaRing(17), polyRing(17, 1), hom(impl.HRoot, 2)},
		{omegaRing(3), modRing(3), hom(impl.HRoot, 2)},
		{capRing(999999), capRing(1000000), hom(impl.HCut, 0)},
		{minRing(999999), minRing(1000000), hom(impl.HCut, 0)},
		{wideRing(999999), wideRing(1000000), hom(impl.HCut, 0)},
		{setRing(19), setRing(20), hom(impl.HCut, 0)},
		{polyRing(1000003, 5), poly, hom(impl.HCut, 0)},
		{poly, polyRing(999983, 6), hom(impl.HCut, 0)},
		{poly, polyRing(2, 1), hom(impl.HCut, 0)},
		{capRing(1000000), minRing(5), hom(impl.HCut, 0)},
		{wideRing(1000000), capRing(5), hom(impl.HCut, 0)},
		{capRing(1000000), capRing(5), hom(impl.HCut, 5)},
		{boolRing(), boolRing(), hom(impl.HCut, 0)},
		{mod, mod, hom(impl.HCut, 0)},
		{omega, omega, hom(impl.HCut, 0)},
		{boolRing(), boolRing(), hom(impl.HOne, 0)},
		{boolRing(), capRing(1), hom(impl.HOne, 0)},
		{boolRing(), modRing(2), hom(impl.HOne, 0)},
		{boolRing(), setRing(20), hom(impl.HOne, 1)},
		{setRing(1), wideRing(1), hom(impl.HOne, 0)},
		{mod, modRing(999983), hom(impl.HSame, 0)},
		{capRing(5), minRing(5), hom(impl.HSame, 0)},
		{boolRing(), setRing(1), hom(impl.HSame, 0)},
		{polyRing(7, 1), modRing(7), hom(impl.HSame, 0)},
		{poly, poly, hom(impl.HSame, 1)},
		{poly, poly, hom(impl.HSame, -1)},
		{poly, poly, hom(0, 0)},
		{poly, poly, hom(9, 0)},
	} {
		if impl.HomOk(c.from, c.to, c.h) {
			t.Errorf("HomOk(%v) is true", c)
		}
		for _, x := range [][]int{impl.ZeroOf(c.from), impl.OneOf(c.from)} {
			if got := impl.ApplyHom(c.from, c.to, c.h, x); got != nil {
				t.Errorf("ApplyHom(%v, %v): %v, not nil", c, x, got)
			}
		}
	}
}

func TestHomsOfInvalidRings(t *testing.T) {
	elems := [][]int{nil, {}, {0}, {1}, {0, 0}, {1, 0, 0, 0}}
	none := func(from impl.Ring, to impl.Ring, h impl.Hom) {
		if impl.HomOk(from, to, h) {
			t.Errorf("HomOk(%v, %v, %v) is true", from, to, h)
		}
		for _, x := range append(elems, impl.OneOf(from)) {
			if got := impl.ApplyHom(from, to, h, x); got != nil {
				t.Errorf("ApplyHom(%v, %v, %v, %v): %v, not nil", from, to, h, x, got)
			}
		}
	}
	for _, bad := range notRings {
		for kind := 0; kind <= 9; kind++ {
			for arg := -1; arg <= 2; arg++ {
				none(bad, bad, hom(kind, arg))
				for _, good := range []impl.Ring{boolRing(), modRing(17), capRing(9), minRing(9), wideRing(9), setRing(5), polyRing(5, 3), omegaRing(17)} {
					none(bad, good, hom(kind, arg))
					none(good, bad, hom(kind, arg))
				}
			}
		}
	}
}

func TestImages(t *testing.T) {
	for _, c := range []struct {
		from impl.Ring
		to   impl.Ring
		h    impl.Hom
		x    []int
		want []int
	}{
		{boolRing(), boolRing(), hom(impl.HSame, 0), []int{1}, []int{1}},
		{minRing(9), minRing(9), hom(impl.HSame, 0), []int{4}, []int{4}},
		{polyRing(7, 3), polyRing(7, 3), hom(impl.HSame, 0), []int{4, 5, 6}, []int{4, 5, 6}},
		{omegaRing(17), omegaRing(17), hom(impl.HSame, 0), []int{1, 2, 3, 4}, []int{1, 2, 3, 4}},
		{capRing(9), boolRing(), hom(impl.HTrue, 0), []int{0}, []int{0}},
		{capRing(9), boolRing(), hom(impl.HTrue, 0), []int{1}, []int{1}},
		{capRing(9), boolRing(), hom(impl.HTrue, 0), []int{9}, []int{1}},
		{minRing(9), boolRing(), hom(impl.HTrue, 0), []int{0}, []int{1}},
		{minRing(9), boolRing(), hom(impl.HTrue, 0), []int{1}, []int{0}},
		{minRing(9), boolRing(), hom(impl.HTrue, 0), []int{9}, []int{0}},
		{setRing(4), boolRing(), hom(impl.HBit, 0), []int{6}, []int{0}},
		{setRing(4), boolRing(), hom(impl.HBit, 1), []int{6}, []int{1}},
		{setRing(4), boolRing(), hom(impl.HBit, 3), []int{6}, []int{0}},
		{setRing(20), boolRing(), hom(impl.HBit, 19), []int{524288}, []int{1}},
		{setRing(20), boolRing(), hom(impl.HBit, 19), []int{524287}, []int{0}},
		{wideRing(9), boolRing(), hom(impl.HLevel, 5), []int{4}, []int{0}},
		{wideRing(9), boolRing(), hom(impl.HLevel, 5), []int{5}, []int{1}},
		{wideRing(9), boolRing(), hom(impl.HLevel, 5), []int{6}, []int{1}},
		{wideRing(9), boolRing(), hom(impl.HLevel, 1), []int{0}, []int{0}},
		{wideRing(9), boolRing(), hom(impl.HLevel, 9), []int{9}, []int{1}},
		{polyRing(7, 3), modRing(7), hom(impl.HConst, 0), []int{4, 5, 6}, []int{4}},
		{polyRing(7, 1), modRing(7), hom(impl.HConst, 0), []int{6}, []int{6}},
		{omegaRing(17), modRing(17), hom(impl.HRoot, 2), []int{1, 1, 0, 0}, []int{3}},
		{omegaRing(17), modRing(17), hom(impl.HRoot, 2), []int{0, 0, 0, 1}, []int{8}},
		{omegaRing(17), modRing(17), hom(impl.HRoot, 2), []int{1, 2, 3, 4}, []int{15}},
		{omegaRing(17), modRing(17), hom(impl.HRoot, 15), []int{1, 2, 3, 4}, []int{11}},
		{omegaRing(999961), modRing(999961), hom(impl.HRoot, 876510), []int{0, 1, 0, 0}, []int{876510}},
		{capRing(9), capRing(5), hom(impl.HCut, 0), []int{7}, []int{5}},
		{capRing(9), capRing(5), hom(impl.HCut, 0), []int{4}, []int{4}},
		{minRing(9), minRing(5), hom(impl.HCut, 0), []int{9}, []int{5}},
		{minRing(9), minRing(5), hom(impl.HCut, 0), []int{3}, []int{3}},
		{wideRing(9), wideRing(5), hom(impl.HCut, 0), []int{6}, []int{5}},
		{wideRing(9), wideRing(5), hom(impl.HCut, 0), []int{5}, []int{5}},
		{setRing(4), setRing(3), hom(impl.HCut, 0), []int{14}, []int{6}},
		{setRing(4), setRing(1), hom(impl.HCut, 0), []int{14}, []int{0}},
		{polyRing(7, 3), polyRing(7, 2), hom(impl.HCut, 0), []int{4, 5, 6}, []int{4, 5}},
		{polyRing(7, 3), polyRing(7, 3), hom(impl.HCut, 0), []int{4, 5, 6}, []int{4, 5, 6}},
		{boolRing(), minRing(9), hom(impl.HOne, 0), []int{0}, []int{9}},
		{boolRing(), minRing(9), hom(impl.HOne, 0), []int{1}, []int{0}},
		{boolRing(), wideRing(9), hom(impl.HOne, 0), []int{0}, []int{0}},
		{boolRing(), wideRing(9), hom(impl.HOne, 0), []int{1}, []int{9}},
		{boolRing(), setRing(4), hom(impl.HOne, 0), []int{0}, []int{0}},
		{boolRing(), setRing(4), hom(impl.HOne, 0), []int{1}, []int{15}},
	} {
		if got := impl.ApplyHom(c.from, c.to, c.h, c.x); !slices.Equal(got, c.want) {
			t.Errorf("ApplyHom(%v, %v, %v, %v): %v, not %v", c.from, c.to, c.h, c.x, got, c.want)
		}
	}
}

func bitOf(yes bool) []int {
	if yes {
		return []int{1}
	}
	return []int{0}
}

// wantedImage follows the text of chapter 4, kind by kind.
func wantedImage(c homCase, x []int) []int {
	switch c.h.Kind {
	case impl.HTrue:
		return bitOf((x[0] == 0) == (c.from.Kind == impl.RMin))
	case impl.HBit:
		rest := x[0]
		for range c.h.Arg {
			rest /= 2
		}
		return bitOf(rest%2 == 1)
	case impl.HLevel:
		return bitOf(x[0] >= c.h.Arg)
	case impl.HConst:
		return x[:1]
	case impl.HRoot:
		value, power := 0, 1
		for _, a := range x {
			value = (value + a*power) % c.to.P
			power = power * c.h.Arg % c.to.P
		}
		return []int{value}
	case impl.HCut:
		if c.to.Kind == impl.RPoly {
			return x[:c.to.N]
		}
		if c.to.Kind == impl.RSet {
			return []int{x[0] % (topOf(c.to) + 1)}
		}
		return []int{capped(x[0], c.to.P)}
	case impl.HOne:
		if (x[0] == 0) == (c.to.Kind == impl.RMin) {
			return []int{topOf(c.to)}
		}
		return []int{0}
	}
	return x
}

func TestImagesOfManyElements(t *testing.T) {
	for _, c := range slices.Concat(smallHoms(), greatHoms()) {
		for _, x := range elemsOf(c.from) {
			got := impl.ApplyHom(c.from, c.to, c.h, x)
			if !slices.Equal(got, wantedImage(c, x)) || !impl.ElemOk(c.to, got) {
				t.Errorf("ApplyHom(%v, %v): %v, not %v", c, x, got, wantedImage(c, x))
			}
		}
	}
}

func TestHomsKeepSumsAndProducts(t *testing.T) {
	for _, c := range slices.Concat(smallHoms(), greatHoms()) {
		image := func(x []int) []int { return impl.ApplyHom(c.from, c.to, c.h, x) }
		if got, want := image(impl.ZeroOf(c.from)), impl.ZeroOf(c.to); got == nil || !slices.Equal(got, want) {
			t.Errorf("%v: the image of zero is %v, not %v", c, got, want)
		}
		if got, want := image(impl.OneOf(c.from)), impl.OneOf(c.to); got == nil || !slices.Equal(got, want) {
			t.Errorf("%v: the image of one is %v, not %v", c, got, want)
		}
		elems := elemsOf(c.from)
		for _, x := range elems[max(0, len(elems)-25):] {
			for _, y := range elems[max(0, len(elems)-25):] {
				sum, wantedSum := image(impl.AddElem(c.from, x, y)), impl.AddElem(c.to, image(x), image(y))
				product, wantedProduct := image(impl.MulElem(c.from, x, y)), impl.MulElem(c.to, image(x), image(y))
				if sum == nil || !slices.Equal(sum, wantedSum) || product == nil || !slices.Equal(product, wantedProduct) {
					t.Fatalf("%v: of %v and %v the sum becomes %v, not %v, the product %v, not %v", c, x, y, sum, wantedSum, product, wantedProduct)
				}
			}
		}
	}
}

func TestNoImagesOfInvalidElems(t *testing.T) {
	for _, c := range slices.Concat(smallHoms(), greatHoms()) {
		bad := notElems(impl.RingWidth(c.from), topOf(c.from))
		if width := impl.RingWidth(c.to); width != impl.RingWidth(c.from) {
			bad = append(bad, impl.OneOf(c.to))
		}
		for _, x := range bad {
			if got := impl.ApplyHom(c.from, c.to, c.h, x); got != nil {
				t.Errorf("ApplyHom(%v, %v): %v, not nil", c, x, got)
			}
		}
	}
}

func TestElemsStayUnderHoms(t *testing.T) {
	for _, c := range slices.Concat(smallHoms(), greatHoms()) {
		elems := elemsOf(c.from)
		for _, elem := range elems[max(0, len(elems)-5):] {
			x := withSpare(elem, -9)
			first, second := impl.ApplyHom(c.from, c.to, c.h, x), impl.ApplyHom(c.from, c.to, c.h, x)
			// What the first result shared with x or with the second one would change here.
			spoil(first, -5)
			sameList(t, "an element", x[:len(elem)+3], append(slices.Clone(elem), -9, -9, -9))
			third := impl.ApplyHom(c.from, c.to, c.h, x)
			sameList(t, "the second image", second, wantedImage(c, elem))
			sameList(t, "the third image", third, wantedImage(c, elem))
		}
		bad := withSpare(slices.Repeat([]int{topOf(c.from) + 1}, impl.RingWidth(c.from)), -9)
		before := slices.Clone(bad[:cap(bad)])
		impl.ApplyHom(c.from, c.to, c.h, bad)
		impl.ApplyHom(c.from, c.to, hom(c.h.Kind, -1), bad)
		sameList(t, "an invalid element", bad[:cap(bad)], before)
	}
}
