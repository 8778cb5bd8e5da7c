package tests

import (
	"math"
	"slices"
	"testing"

	"loop.example/g03211/impl"
)

// A combination is a function that combines two tensors, and what it does with
// two elements.
type combination struct {
	name string
	of   func(r impl.Ring, a impl.Tensor, b impl.Tensor) (impl.Tensor, bool)
	elem func(r impl.Ring, x []int, y []int) []int
}

var (
	adding       = combination{"AddTensors", impl.AddTensors, wantedSum}
	multiplying  = combination{"MultiplyTensors", impl.MultiplyTensors, wantedProduct}
	combinations = []combination{adding, multiplying}
)

func (c combination) apply(t *testing.T, r impl.Ring, a impl.Tensor, b impl.Tensor) impl.Tensor {
	t.Helper()
	got, ok := c.of(r, a, b)
	if !ok || !impl.TensorOk(r, got) {
		t.Errorf("over %v %s of labels %v and %v: %t, or no tensor", r, c.name, a.Labels, b.Labels, ok)
	}
	return got
}

func plusTensors(t *testing.T, r impl.Ring, a impl.Tensor, b impl.Tensor) impl.Tensor {
	t.Helper()
	return adding.apply(t, r, a, b)
}

func timesTensors(t *testing.T, r impl.Ring, a impl.Tensor, b impl.Tensor) impl.Tensor {
	t.Helper()
	return multiplying.apply(t, r, a, b)
}

func scaled(t *testing.T, r impl.Ring, tensor impl.Tensor, x []int) impl.Tensor {
	t.Helper()
	got := impl.ScaleTensor(r, tensor, x)
	if !impl.TensorOk(r, got) {
		t.Errorf("over %v ScaleTensor of labels %v by %v is no tensor", r, tensor.Labels, x)
	}
	return got
}

func mapped(t *testing.T, c homCase, tensor impl.Tensor) impl.Tensor {
	t.Helper()
	got, ok := impl.MapTensor(c.from, c.to, c.h, tensor)
	if !ok || !impl.TensorOk(c.to, got) {
		t.Errorf("%v: MapTensor of labels %v: %t, or no tensor", c, tensor.Labels, ok)
	}
	return got
}

// noCombination looks at both ways round, since the conditions are the same.
func noCombination(t *testing.T, r impl.Ring, a impl.Tensor, b impl.Tensor) {
	t.Helper()
	for _, c := range combinations {
		for _, pair := range [][2]impl.Tensor{{a, b}, {b, a}} {
			got, ok := c.of(r, pair[0], pair[1])
			noTensor(t, c.name+" with wrong arguments", got)
			if ok {
				t.Errorf("over %v %s of %v and %v gives true", r, c.name, pair[0], pair[1])
			}
		}
	}
}

func noScaling(t *testing.T, r impl.Ring, tensor impl.Tensor, x []int) {
	t.Helper()
	noTensor(t, "ScaleTensor with wrong arguments", impl.ScaleTensor(r, tensor, x))
}

func noMap(t *testing.T, c homCase, tensor impl.Tensor) {
	t.Helper()
	got, ok := impl.MapTensor(c.from, c.to, c.h, tensor)
	noTensor(t, "MapTensor with wrong arguments", got)
	if ok {
		t.Errorf("%v: MapTensor of %v gives true", c, tensor)
	}
}

// mixed applies a function to the elements of two lists, one by one.
func mixed(r impl.Ring, elem func(r impl.Ring, x []int, y []int) []int, a [][]int, b [][]int) [][]int {
	result := make([][]int, len(a))
	for n, x := range a {
		result[n] = elem(r, x, b[n])
	}
	return result
}

func imagesOf(c homCase, elems [][]int) [][]int {
	result := make([][]int, len(elems))
	for n, x := range elems {
		result[n] = wantedImage(c, x)
	}
	return result
}

func TestAddAndMultiplyTensors(t *testing.T) {
	labels, dims := []int{2, 5}, []int{2, 3}
	tensor := func(data ...int) impl.Tensor { return impl.Tensor{Labels: labels, Dims: dims, Data: data} }
	turned := func(data ...int) impl.Tensor {
		return impl.Tensor{Labels: []int{5, 2}, Dims: []int{3, 2}, Data: data}
	}
	point := func(data ...int) impl.Tensor { return impl.Tensor{Data: data} }
	line := func(data ...int) impl.Tensor { return impl.Tensor{Labels: []int{99}, Dims: []int{2}, Data: data} }
	for _, c := range []struct {
		r       impl.Ring
		a       impl.Tensor
		b       impl.Tensor
		sum     impl.Tensor
		product impl.Tensor
	}{
		{modRing(7), tensor(0, 1, 2, 3, 4, 5), tensor(6, 5, 4, 3, 2, 1), tensor(6, 6, 6, 6, 6, 6), tensor(0, 5, 1, 2, 1, 5)},
		{modRing(7), tensor(0, 1, 2, 3, 4, 5), turned(0, 3, 1, 4, 2, 5), tensor(0, 2, 4, 6, 1, 3), tensor(0, 1, 4, 2, 2, 4)},
		{modRing(7), turned(0, 3, 1, 4, 2, 5), tensor(0, 1, 2, 3, 4, 5), turned(0, 6, 2, 1, 4, 3), turned(0, 2, 1, 2, 4, 4)},
		{boolRing(), tensor(0, 0, 1, 1, 0, 1), tensor(0, 1, 0, 1, 1, 1), tensor(0, 1, 1, 1, 1, 1), tensor(0, 0, 0, 1, 0, 1)},
		{boolRing(), tensor(0, 0, 1, 1, 0, 1), turned(0, 1, 1, 1, 0, 1), tensor(0, 1, 1, 1, 1, 1), tensor(0, 0, 0, 1, 0, 1)},
		{capRing(9), tensor(0, 1, 2, 3, 4, 9), tensor(9, 8, 4, 3, 2, 9), tensor(9, 9, 6, 6, 6, 9), tensor(0, 8, 8, 9, 8, 9)},
		{minRing(9), tensor(0, 1, 2, 3, 4, 9), tensor(9, 9, 4, 3, 2, 0), tensor(0, 1, 2, 3, 2, 0), tensor(9, 9, 6, 6, 6, 9)},
		{wideRing(9), tensor(0, 1, 2, 3, 4, 9), turned(9, 3, 0, 2, 5, 1), tensor(9, 1, 5, 3, 4, 9), tensor(0, 0, 2, 3, 2, 1)},
		{setRing(3), tensor(0, 1, 2, 3, 4, 5), tensor(7, 6, 5, 4, 3, 2), tensor(7, 7, 7, 7, 7, 7), tensor(0, 0, 0, 0, 0, 0)},
		{setRing(3), tensor(0, 1, 2, 3, 4, 5), turned(7, 2, 3, 6, 3, 1), tensor(7, 3, 3, 3, 6, 5), tensor(0, 1, 2, 2, 4, 1)},
		{polyRing(7, 2), line(1, 2, 3, 4), line(5, 6, 0, 1), line(6, 1, 3, 5), line(5, 2, 0, 3)},
		{polyRing(7, 3), point(1, 2, 3), point(4, 5, 6), point(5, 0, 2), point(4, 6, 0)},
		{omegaRing(17), point(1, 2, 3, 4), point(0, 1, 0, 0), point(1, 3, 3, 4), point(13, 1, 2, 3)},
		{modRing(1000003), point(1000002), point(1000002), point(1000001), point(1)},
		{capRing(1000000), line(999999, 1000000), line(1, 1000000), line(1000000, 1000000), line(999999, 1000000)},
		{minRing(1), point(1), point(0), point(0), point(1)},
	} {
		sameTensor(t, "a sum", plusTensors(t, c.r, c.a, c.b), c.sum)
		sameTensor(t, "a product", timesTensors(t, c.r, c.a, c.b), c.product)
		if t.Failed() {
			t.Fatalf("over %v of %v and %v", c.r, c.a, c.b)
		}
	}
	// A nil list of axes and an empty one are the same.
	none := impl.Tensor{Labels: []int{}, Dims: []int{}, Data: []int{3}}
	sameTensor(t, "a sum without axes", plusTensors(t, modRing(7), point(5), none), point(1))
	sameTensor(t, "a product without axes", timesTensors(t, modRing(7), none, point(5)), point(1))
}

func TestCombineManyTensors(t *testing.T) {
	t.Parallel()
	for _, r := range fullRings() {
		for i, c := range axesCases {
			first, second := elemsFor(r, c.size, i), elemsFor(r, c.size, 3*i+1)
			tensor := tensorWith(c.axes, first)
			orders := someOrders(c.labels)
			if c.size > 100 {
				// Every order comes over some of the rings.
				n := (i + r.N + r.Kind) % len(orders)
				orders = [][]int{orders[n], orders[(n+1)%len(orders)]}
			}
			for _, order := range orders {
				other := wantedPermutation(c.axes, second, order)
				for _, way := range combinations {
					want := tensorWith(c.axes, mixed(r, way.elem, first, second))
					sameTensor(t, "a combined tensor", way.apply(t, r, tensor, other), want)
					if t.Failed() {
						t.Fatalf("over %v %s of %v and one in the order %v", r, way.name, c.axes, order)
					}
				}
			}
		}
	}
}

// Each element meets each other one in some tensor, in every ring.
func TestCombineEveryTwoElements(t *testing.T) {
	a := axes{[]int{9, 4, 0}, []int{3, 4, 7}}
	for _, c := range ringCases {
		elems := allElems(c.r, c.width, c.top)
		if len(elems) > 84 {
			t.Fatalf("%v has %d elements to look at", c.r, len(elems))
		}
		first := make([][]int, 84)
		for n := range first {
			first[n] = elems[n%len(elems)]
		}
		tensor := tensorWith(a, first)
		for shift := range elems {
			second := make([][]int, 84)
			for n := range second {
				second[n] = elems[(n+shift)%len(elems)]
			}
			other := tensorWith(a, second)
			sameTensor(t, "a sum", plusTensors(t, c.r, tensor, other), tensorWith(a, mixed(c.r, wantedSum, first, second)))
			sameTensor(t, "a product", timesTensors(t, c.r, tensor, other), tensorWith(a, mixed(c.r, wantedProduct, first, second)))
		}
		if t.Failed() {
			t.Fatalf("over %v", c.r)
		}
	}
}

func TestCombineThreeAxesInEveryOrder(t *testing.T) {
	for i, dims := range [][]int{{2, 3, 4}, {4, 3, 2}, {3, 3, 3}, {2, 2, 5}, {1, 3, 2}, {3, 1, 2}, {3, 2, 1}, {1, 1, 4}, {1, 4, 1}, {1, 1, 1}} {
		labels := [][]int{{0, 1, 2}, {7, 98, 3}, {99, 50, 0}}[i%3]
		for _, r := range []impl.Ring{modRing(1000003), setRing(20), polyRing(7, 2), polyRing(2, 6), omegaRing(17)} {
			a := axes{labels, dims}
			size := dims[0] * dims[1] * dims[2]
			first, second := elemsFor(r, size, i), elemsFor(r, size, i+5)
			sums, products := mixed(r, wantedSum, first, second), mixed(r, wantedProduct, first, second)
			for _, order := range allOrders(labels) {
				tensor := wantedPermutation(a, first, order)
				for _, otherOrder := range allOrders(labels) {
					other := wantedPermutation(a, second, otherOrder)
					sameTensor(t, "a sum", plusTensors(t, r, tensor, other), wantedPermutation(a, sums, order))
					sameTensor(t, "a product", timesTensors(t, r, tensor, other), wantedPermutation(a, products, order))
				}
			}
		}
	}
}

// Elements that tell where they come from show which two have met.
func TestElementsMeetThoseWithTheSameIndices(t *testing.T) {
	t.Parallel()
	r := polyRing(1000003, 3)
	for _, c := range axesCases {
		a := c.tensor()
		for n := range c.size {
			a.Data = append(a.Data, 1, n, 0)
		}
		for _, order := range someOrders(c.labels) {
			b := impl.Tensor{Labels: order, Dims: make([]int, len(order))}
			for i, label := range order {
				b.Dims[i] = c.dims[slices.Index(c.labels, label)]
			}
			for n := range c.size {
				b.Data = append(b.Data, 1, 0, n)
			}
			sum, product := plusTensors(t, r, a, b), timesTensors(t, r, a, b)
			for n, index := range indicesOf(c.dims) {
				other := make([]int, len(index))
				for i, label := range order {
					other[i] = index[slices.Index(c.labels, label)]
				}
				at := impl.OffsetOf(b, other)
				if !slices.Equal(sum.Data[3*n:3*n+3], []int{2, n, at}) || !slices.Equal(product.Data[3*n:3*n+3], []int{1, n, at}) {
					t.Fatalf("%v with the order %v: at %v not %d and %d meet", c.axes, order, index, n, at)
				}
			}
		}
	}
}

// otherAxes returns axes that differ from these in the labels or in the
// dimension of a label.
func otherAxes(a axes) []axes {
	rank := len(a.labels)
	var others []axes
	add := func(labels []int, dims []int) { others = append(others, axes{labels, dims}) }
	add(append(slices.Clone(a.labels), freeLabel), append(slices.Clone(a.dims), 1))
	add(append([]int{freeLabel}, a.labels...), append([]int{1}, a.dims...))
	add(append([]int{freeLabel}, a.labels...), append([]int{2}, a.dims...))
	for i, label := range a.labels {
		add(slices.Delete(slices.Clone(a.labels), i, i+1), slices.Delete(slices.Clone(a.dims), i, i+1))
		renamed := slices.Clone(a.labels)
		renamed[i] = freeLabel
		add(renamed, a.dims)
		add(backward(renamed), backward(a.dims))
		for _, d := range []int{1, a.dims[i] - 1, a.dims[i] + 1, 8} {
			if d == a.dims[i] || d < 1 || d > 8 {
				continue
			}
			resized := slices.Clone(a.dims)
			resized[i] = d
			add(a.labels, resized)
			add(backward(a.labels), backward(resized))
		}
		if next := (i + 1) % rank; a.dims[next] != a.dims[i] {
			swapped := slices.Clone(a.labels)
			swapped[i], swapped[next] = swapped[next], label
			add(swapped, a.dims)
			resized := slices.Clone(a.dims)
			resized[i], resized[next] = resized[next], resized[i]
			add(a.labels, resized)
		}
	}
	return others
}

func TestTensorsWithOtherAxesAreNotCombined(t *testing.T) {
	t.Parallel()
	for _, r := range []impl.Ring{boolRing(), minRing(9), polyRing(7, 2), omegaRing(17)} {
		for i, c := range axesCases {
			tensor := tensorWith(c.axes, elemsFor(r, c.size, i))
			for _, other := range otherAxes(c.axes) {
				size := impl.TensorSize(other.tensor())
				if size < 0 {
					continue
				}
				b := tensorWith(other, elemsFor(r, size, i))
				if !impl.TensorOk(r, b) {
					t.Fatalf("over %v no tensor has %v", r, other)
				}
				noCombination(t, r, tensor, b)
			}
		}
	}
	// These have as many integers, and the same dimensions or labels in part.
	r := boolRing()
	six := elemsFor(r, 6, 1)
	a := tensorWith(axes{[]int{2, 5}, []int{2, 3}}, six)
	for _, other := range []axes{
		{[]int{2, 5}, []int{3, 2}}, {[]int{5, 2}, []int{2, 3}}, {[]int{2}, []int{6}}, {[]int{5}, []int{6}}, {[]int{2, 5}, []int{1, 6}}, {[]int{2, 5}, []int{6, 1}},
		{[]int{2, 5, 9}, []int{2, 3, 1}}, {[]int{2, 9}, []int{2, 3}}, {[]int{9, 5}, []int{2, 3}}, {[]int{7, 9}, []int{2, 3}}, {[]int{1, 2, 5}, []int{1, 2, 3}},
	} {
		noCombination(t, r, a, tensorWith(other, six))
	}
	noCombination(t, r, impl.Tensor{Data: []int{1}}, impl.Tensor{Labels: []int{0}, Dims: []int{1}, Data: []int{1}})
}

func TestCombineAllSmallTensors(t *testing.T) {
	tensors := smallTensors()
	for _, a := range tensors {
		dims, elems := entries(a)
		for _, b := range tensors {
			otherDims, otherElems := entries(b)
			if !sameEntries(dims, otherDims) {
				noCombination(t, boolRing(), a, b)
				continue
			}
			sum, product := cloneTensor(a), cloneTensor(a)
			for n, p := range placesOf(a.Labels, a.Dims) {
				sum.Data[n] = max(elems[p], otherElems[p])
				product.Data[n] = min(elems[p], otherElems[p])
			}
			sameTensor(t, "a sum", plusTensors(t, boolRing(), a, b), sum)
			sameTensor(t, "a product", timesTensors(t, boolRing(), a, b), product)
		}
	}
}

func TestScaleTensor(t *testing.T) {
	labels, dims := []int{5, 2}, []int{3, 1}
	for _, c := range []struct {
		r    impl.Ring
		data []int
		x    []int
		want []int
	}{
		{modRing(7), []int{0, 3, 6}, []int{2}, []int{0, 6, 5}},
		{modRing(7), []int{0, 3, 6}, []int{0}, []int{0, 0, 0}},
		{modRing(7), []int{0, 3, 6}, []int{1}, []int{0, 3, 6}},
		{boolRing(), []int{0, 1, 1}, []int{0}, []int{0, 0, 0}},
		{boolRing(), []int{0, 1, 1}, []int{1}, []int{0, 1, 1}},
		{capRing(9), []int{0, 3, 6}, []int{2}, []int{0, 6, 9}},
		{minRing(9), []int{0, 3, 9}, []int{2}, []int{2, 5, 9}},
		{minRing(9), []int{0, 3, 9}, []int{0}, []int{0, 3, 9}},
		{minRing(9), []int{0, 3, 9}, []int{9}, []int{9, 9, 9}},
		{wideRing(9), []int{0, 3, 9}, []int{5}, []int{0, 3, 5}},
		{wideRing(9), []int{0, 3, 9}, []int{1}, []int{0, 1, 1}},
		{setRing(3), []int{7, 3, 6}, []int{5}, []int{5, 1, 4}},
		{polyRing(7, 2), []int{1, 0, 0, 1, 3, 4}, []int{2, 5}, []int{2, 5, 0, 2, 6, 2}},
		{omegaRing(17), []int{1, 2, 3, 4, 0, 0, 0, 1, 0, 0, 0, 0}, []int{0, 1, 0, 0}, []int{13, 1, 2, 3, 16, 0, 0, 0, 0, 0, 0, 0}},
	} {
		tensor := impl.Tensor{Labels: labels, Dims: dims, Data: c.data}
		sameTensor(t, "a scaled tensor", scaled(t, c.r, tensor, c.x), impl.Tensor{Labels: labels, Dims: dims, Data: c.want})
		noScaling(t, c.r, tensor, nil)
		noScaling(t, c.r, tensor, append(c.x, 0))
	}
	sameTensor(t, "a scaled tensor without axes", scaled(t, modRing(7), impl.Tensor{Data: []int{4}}, []int{3}), impl.Tensor{Data: []int{5}})
}

func TestScaleManyTensors(t *testing.T) {
	for _, r := range fullRings() {
		factors := edgeElems(r, impl.RingWidth(r), topOf(r))
		for i, c := range axesCases {
			elems := elemsFor(r, c.size, i)
			tensor := tensorWith(c.axes, elems)
			sameTensor(t, "a tensor times one", scaled(t, r, tensor, impl.OneOf(r)), tensor)
			zero, _ := impl.ZeroTensor(r, c.labels, c.dims)
			sameTensor(t, "a tensor times zero", scaled(t, r, tensor, impl.ZeroOf(r)), zero)
			some := factors
			if c.size > 100 {
				some = factors[i%len(factors):][:1]
			}
			for _, x := range some {
				want := mixed(r, wantedProduct, slices.Repeat([][]int{x}, c.size), elems)
				sameTensor(t, "a scaled tensor", scaled(t, r, tensor, x), tensorWith(c.axes, want))
			}
			if t.Failed() {
				t.Fatalf("over %v %v", r, c.axes)
			}
		}
	}
}

func TestScaleByEveryElement(t *testing.T) {
	a := axes{[]int{9, 4, 0}, []int{3, 4, 7}}
	for _, c := range ringCases {
		elems := allElems(c.r, c.width, c.top)
		all := make([][]int, 84)
		for n := range all {
			all[n] = elems[n%len(elems)]
		}
		for _, x := range elems {
			want := mixed(c.r, wantedProduct, slices.Repeat([][]int{x}, 84), all)
			sameTensor(t, "a scaled tensor", scaled(t, c.r, tensorWith(a, all), x), tensorWith(a, want))
		}
	}
}

func TestScaleByNoElement(t *testing.T) {
	for _, c := range ringCases {
		bad := notElems(c.width, c.top)
		for _, other := range fullRings() {
			for _, x := range [][]int{impl.ZeroOf(other), impl.OneOf(other)} {
				if len(x) != c.width {
					bad = append(bad, x)
				}
			}
		}
		for i, a := range axesCases[:12] {
			tensor := tensorWith(a.axes, elemsFor(c.r, a.size, i))
			for _, x := range bad {
				noScaling(t, c.r, tensor, x)
			}
		}
	}
}

func TestMapTensor(t *testing.T) {
	for _, c := range []struct {
		homCase
		data []int
		want []int
	}{
		{homCase{modRing(7), modRing(7), hom(impl.HSame, 0)}, []int{0, 3, 6}, []int{0, 3, 6}},
		{homCase{polyRing(7, 2), polyRing(7, 2), hom(impl.HSame, 0)}, []int{1, 2, 3, 4, 5, 6}, []int{1, 2, 3, 4, 5, 6}},
		{homCase{capRing(9), boolRing(), hom(impl.HTrue, 0)}, []int{0, 1, 9}, []int{0, 1, 1}},
		{homCase{minRing(9), boolRing(), hom(impl.HTrue, 0)}, []int{0, 1, 9}, []int{1, 0, 0}},
		{homCase{setRing(4), boolRing(), hom(impl.HBit, 1)}, []int{6, 13, 2}, []int{1, 0, 1}},
		{homCase{wideRing(9), boolRing(), hom(impl.HLevel, 5)}, []int{4, 5, 9}, []int{0, 1, 1}},
		{homCase{polyRing(7, 2), modRing(7), hom(impl.HConst, 0)}, []int{1, 2, 3, 4, 5, 6}, []int{1, 3, 5}},
		{homCase{polyRing(7, 3), modRing(7), hom(impl.HConst, 0)}, []int{1, 2, 3, 4, 5, 6, 0, 1, 2}, []int{1, 4, 0}},
		{homCase{omegaRing(17), modRing(17), hom(impl.HRoot, 2)}, []int{1, 1, 0, 0, 0, 0, 0, 1, 1, 2, 3, 4}, []int{3, 8, 15}},
		{homCase{capRing(9), capRing(5), hom(impl.HCut, 0)}, []int{4, 6, 9}, []int{4, 5, 5}},
		{homCase{setRing(4), setRing(3), hom(impl.HCut, 0)}, []int{15, 8, 5}, []int{7, 0, 5}},
		{homCase{polyRing(7, 3), polyRing(7, 2), hom(impl.HCut, 0)}, []int{1, 2, 3, 4, 5, 6, 0, 1, 2}, []int{1, 2, 4, 5, 0, 1}},
		{homCase{boolRing(), minRing(9), hom(impl.HOne, 0)}, []int{0, 1, 0}, []int{9, 0, 9}},
		{homCase{boolRing(), wideRing(9), hom(impl.HOne, 0)}, []int{0, 1, 0}, []int{0, 9, 0}},
		{homCase{boolRing(), setRing(4), hom(impl.HOne, 0)}, []int{0, 1, 0}, []int{0, 15, 0}},
	} {
		labels, dims := []int{8, 5, 2}, []int{1, 3, 1}
		got := mapped(t, c.homCase, impl.Tensor{Labels: labels, Dims: dims, Data: c.data})
		sameTensor(t, "an image", got, impl.Tensor{Labels: labels, Dims: dims, Data: c.want})
	}
	got := mapped(t, homCase{polyRing(7, 3), polyRing(7, 1), hom(impl.HCut, 0)}, impl.Tensor{Data: []int{4, 5, 6}})
	sameTensor(t, "an image without axes", got, impl.Tensor{Data: []int{4}})
}

func TestMapManyTensors(t *testing.T) {
	for k, c := range slices.Concat(smallHoms(), greatHoms()) {
		for i, a := range axesCases {
			if a.size > 100 && (i+k)%50 != 0 {
				continue
			}
			elems := elemsFor(c.from, a.size, i)
			got := mapped(t, c, tensorWith(a.axes, elems))
			sameTensor(t, "an image", got, tensorWith(a.axes, imagesOf(c, elems)))
			if t.Failed() {
				t.Fatalf("%v of %v", c, a.axes)
			}
		}
		all := elemsOf(c.from)
		for len(all) < 84 {
			all = append(all, all...)
		}
		a := axes{[]int{9, 4, 0}, []int{3, 4, 7}}
		got := mapped(t, c, tensorWith(a, all[:84]))
		sameTensor(t, "an image of all elements", got, tensorWith(a, imagesOf(c, all[:84])))
	}
}

func TestMapGreatTensors(t *testing.T) {
	for _, c := range []homCase{
		{polyRing(1000003, 6), polyRing(1000003, 6), hom(impl.HSame, 0)},
		{polyRing(1000003, 6), polyRing(1000003, 5), hom(impl.HCut, 0)},
		{polyRing(1000003, 6), modRing(1000003), hom(impl.HConst, 0)},
		{omegaRing(999961), modRing(999961), hom(impl.HRoot, 123451)},
		{boolRing(), setRing(20), hom(impl.HOne, 0)},
	} {
		for i, a := range axesCases {
			elems := elemsFor(c.from, a.size, i)
			sameTensor(t, "an image", mapped(t, c, tensorWith(a.axes, elems)), tensorWith(a.axes, imagesOf(c, elems)))
		}
	}
}

func TestNoOtherHomsMapTensors(t *testing.T) {
	valid := map[homCase]bool{}
	for _, c := range smallHoms() {
		valid[c] = true
	}
	a := axes{[]int{3, 1}, []int{1, 2}}
	rings := smallRings()
	for _, from := range rings {
		elems := elemsFor(from, 2, 1)
		tensor := tensorWith(a, elems)
		for _, to := range rings {
			for kind := -1; kind <= 10; kind++ {
				for _, arg := range []int{math.MinInt, -1, 0, 1, 2, 3, 5, 6, 8, 20, 38, math.MaxInt} {
					c := homCase{from, to, hom(kind, arg)}
					if !valid[c] {
						noMap(t, c, tensor)
						continue
					}
					sameTensor(t, "an image", mapped(t, c, tensor), tensorWith(a, imagesOf(c, elems)))
				}
			}
		}
	}
}

func TestMapTensorsOfAnotherRing(t *testing.T) {
	for _, c := range slices.Concat(smallHoms(), greatHoms()) {
		width, top := impl.RingWidth(c.from), topOf(c.from)
		for i, a := range axesCases[:12] {
			// These are tensors over to, but they may not be any over from.
			for _, elems := range [][][]int{elemsFor(c.to, a.size, i), slices.Repeat([][]int{impl.OneOf(c.to)}, a.size)} {
				tensor := tensorWith(a.axes, elems)
				if impl.RingWidth(c.to) != width || slices.Max(tensor.Data) > top {
					noMap(t, c, tensor)
				}
			}
			for _, wrong := range withWrongData(c.from, tensorWith(a.axes, elemsFor(c.from, a.size, i))) {
				noMap(t, c, wrong)
			}
		}
	}
	// Valid over to and not over from.
	noMap(t, homCase{boolRing(), setRing(3), hom(impl.HOne, 0)}, impl.Tensor{Labels: []int{0}, Dims: []int{2}, Data: []int{7, 0}})
	noMap(t, homCase{boolRing(), minRing(9), hom(impl.HOne, 0)}, impl.Tensor{Data: []int{9}})
	noMap(t, homCase{polyRing(7, 3), modRing(7), hom(impl.HConst, 0)}, impl.Tensor{Labels: []int{0}, Dims: []int{3}, Data: []int{1, 2, 3}})
	noMap(t, homCase{polyRing(7, 3), polyRing(7, 2), hom(impl.HCut, 0)}, impl.Tensor{Labels: []int{0}, Dims: []int{3}, Data: []int{1, 2, 3, 4, 5, 6}})
	noMap(t, homCase{omegaRing(17), modRing(17), hom(impl.HRoot, 2)}, impl.Tensor{Data: []int{3}})
}

// noLinear looks for the answers of all the functions to arguments among which
// the ring or the tensor is not valid; the other tensor has suitable axes, if
// there are any.
func noLinear(t *testing.T, r impl.Ring, tensor impl.Tensor, other impl.Tensor) {
	t.Helper()
	noCombination(t, r, tensor, tensor)
	noCombination(t, r, tensor, other)
	noCombination(t, r, tensor, impl.Tensor{Data: impl.OneOf(r)})
	noCombination(t, r, tensor, impl.Tensor{})
	for _, x := range [][]int{impl.OneOf(r), impl.ZeroOf(r), {0}, {1}, nil} {
		noScaling(t, r, tensor, x)
	}
	for _, c := range []homCase{
		{r, r, hom(impl.HSame, 0)}, {r, r, hom(impl.HCut, 0)}, {r, boolRing(), hom(impl.HTrue, 0)}, {r, boolRing(), hom(impl.HBit, 0)},
		{r, boolRing(), hom(impl.HLevel, 1)}, {r, modRing(7), hom(impl.HConst, 0)}, {r, modRing(17), hom(impl.HRoot, 2)}, {r, setRing(3), hom(impl.HOne, 0)},
	} {
		noMap(t, c, tensor)
	}
}

func TestNoTensorsAreCombined(t *testing.T) {
	t.Parallel()
	for _, a := range notAxes {
		for _, data := range [][]int{nil, {0}, {0, 0}, dataOf(a.dims)} {
			tensor := impl.Tensor{Labels: a.labels, Dims: a.dims, Data: data}
			noLinear(t, boolRing(), tensor, impl.Tensor{Labels: a.labels, Dims: slices.Repeat([]int{1}, len(a.labels)), Data: []int{1}})
			noLinear(t, polyRing(7, 1), tensor, tensor)
		}
	}
	for _, r := range fullRings() {
		for i, c := range axesCases[:15] {
			tensor := tensorWith(c.axes, elemsFor(r, c.size, i))
			for _, wrong := range withWrongData(r, tensor) {
				noLinear(t, r, wrong, tensor)
			}
		}
	}
	// As many integers, but elements of another width or too great ones.
	six := impl.Tensor{Labels: []int{4}, Dims: []int{3}, Data: []int{1, 2, 3, 4, 5, 6}}
	noLinear(t, polyRing(7, 3), six, impl.Tensor{Labels: []int{4}, Dims: []int{2}, Data: []int{1, 2, 3, 4, 5, 6}})
	noLinear(t, polyRing(5, 2), six, impl.Tensor{Labels: []int{4}, Dims: []int{3}, Data: []int{1, 2, 3, 4, 0, 1}})
	noLinear(t, capRing(9), six, impl.Tensor{Labels: []int{4}, Dims: []int{3}, Data: []int{1, 2, 3}})
}

func TestTensorsOfInvalidRingsAreNotCombined(t *testing.T) {
	for _, r := range notRings {
		for _, c := range axesCases[:12] {
			for _, data := range [][]int{nil, make([]int, c.size), make([]int, 4*c.size), make([]int, max(0, min(r.N, 9))*c.size)} {
				tensor := impl.Tensor{Labels: c.labels, Dims: c.dims, Data: data}
				noLinear(t, r, tensor, tensor)
			}
			// Here only the ring of the images is not valid.
			for kind := 0; kind <= 9; kind++ {
				for _, from := range []impl.Ring{boolRing(), modRing(7), capRing(9), setRing(3), polyRing(5, 2), omegaRing(17)} {
					noMap(t, homCase{from, r, hom(kind, 0)}, tensorWith(c.axes, elemsFor(from, c.size, 1)))
				}
			}
		}
	}
}

func TestLawsOfTensors(t *testing.T) {
	t.Parallel()
	for _, r := range fullRings() {
		for i, c := range axesCases {
			if c.size > 1000 && i%4 != r.Kind%4 {
				continue
			}
			a := tensorWith(c.axes, elemsFor(r, c.size, i))
			b := wantedPermutation(c.axes, elemsFor(r, c.size, 2*i+1), backward(c.labels))
			d := wantedPermutation(c.axes, elemsFor(r, c.size, 5*i+2), rotated(c.labels, 1))
			x := elemsFor(r, 4, i)[3]
			zero, _ := impl.ZeroTensor(r, c.labels, c.dims)
			one := tensorWith(c.axes, slices.Repeat([][]int{impl.OneOf(r)}, c.size))
			plus := func(a impl.Tensor, b impl.Tensor) impl.Tensor { return plusTensors(t, r, a, b) }
			times := func(a impl.Tensor, b impl.Tensor) impl.Tensor { return timesTensors(t, r, a, b) }
			same(t, r, plus(a, b), plus(b, a), true)
			same(t, r, times(a, b), times(b, a), true)
			sameTensor(t, "a sum of three", plus(plus(a, b), d), plus(a, plus(b, d)))
			sameTensor(t, "a product of three", times(times(a, b), d), times(a, times(b, d)))
			sameTensor(t, "a product with a sum", times(a, plus(b, d)), plus(times(a, b), times(a, d)))
			sameTensor(t, "a sum with zeros", plus(a, zero), a)
			same(t, r, plus(zero, b), b, true)
			sameTensor(t, "a product with ones", times(a, one), a)
			same(t, r, times(one, b), b, true)
			sameTensor(t, "a product with zeros", times(a, zero), zero)
			all := scaled(t, r, one, x)
			sameTensor(t, "a scaled tensor", scaled(t, r, a, x), times(a, all))
			sameTensor(t, "a scaled sum", scaled(t, r, plus(a, b), x), plus(scaled(t, r, a, x), scaled(t, r, b, x)))
			sameTensor(t, "a scaled product", scaled(t, r, times(a, b), x), times(scaled(t, r, a, x), b))
			order := rotated(c.labels, 2)
			sameTensor(t, "a permuted sum", permute(t, r, plus(a, b), order), plus(permute(t, r, a, order), b))
			if t.Failed() {
				t.Fatalf("over %v %v", r, c.axes)
			}
		}
	}
}

func TestMapsKeepSumsAndProductsOfTensors(t *testing.T) {
	t.Parallel()
	for k, c := range slices.Concat(smallHoms(), greatHoms()) {
		for i, a := range axesCases {
			if a.size > 30 && (i+k)%100 != 0 {
				continue
			}
			first := tensorWith(a.axes, elemsFor(c.from, a.size, i))
			second := wantedPermutation(a.axes, elemsFor(c.from, a.size, 3*i+k), backward(a.labels))
			x := elemsFor(c.from, 4, k)[3]
			one, two := mapped(t, c, first), mapped(t, c, second)
			sameTensor(t, "an image of a sum", mapped(t, c, plusTensors(t, c.from, first, second)), plusTensors(t, c.to, one, two))
			sameTensor(t, "an image of a product", mapped(t, c, timesTensors(t, c.from, first, second)), timesTensors(t, c.to, one, two))
			sameTensor(t, "an image of a scaled tensor", mapped(t, c, scaled(t, c.from, first, x)), scaled(t, c.to, one, wantedImage(c, x)))
			order := rotated(a.labels, 1)
			sameTensor(t, "an image of a permuted tensor", mapped(t, c, permute(t, c.from, first, order)), permute(t, c.to, one, order))
			if t.Failed() {
				t.Fatalf("%v of %v", c, a.axes)
			}
		}
	}
}

func TestCombinedTensorsStay(t *testing.T) {
	t.Parallel()
	for _, r := range fullRings() {
		for i, c := range axesCases {
			first, second := elemsFor(r, c.size, i), elemsFor(r, c.size, 2*i+1)
			before, otherBefore := tensorWith(c.axes, first), wantedPermutation(c.axes, second, backward(c.labels))
			// In the order of the first one there is nothing to permute.
			thirdBefore := tensorWith(c.axes, second)
			a, b, third := spareTensor(before), spareTensor(otherBefore), spareTensor(thirdBefore)
			x := withSpare(impl.OneOf(r), -9)
			for range 2 {
				// What the results share with an argument changes here.
				for _, way := range combinations {
					want := tensorWith(c.axes, mixed(r, way.elem, first, second))
					double := tensorWith(c.axes, mixed(r, way.elem, first, first))
					for _, other := range []impl.Tensor{b, third} {
						got := way.apply(t, r, a, other)
						sameTensor(t, "a combined tensor", got, want)
						spoilTensor(got)
					}
					got := way.apply(t, r, a, a)
					sameTensor(t, "a tensor combined with itself", got, double)
					spoilTensor(got)
				}
				got := scaled(t, r, a, x)
				sameTensor(t, "a tensor times one", got, before)
				spoilTensor(got)
				got = mapped(t, homCase{r, r, hom(impl.HSame, 0)}, a)
				sameTensor(t, "a tensor mapped to itself", got, before)
				spoilTensor(got)
			}
			stays(t, "a part of the first tensor", a, before)
			stays(t, "a part of the second tensor", b, otherBefore)
			stays(t, "a part of the third tensor", third, thirdBefore)
			sameList(t, "an element", x[:len(x)+3], append(impl.OneOf(r), -9, -9, -9))
			if t.Failed() {
				t.Fatalf("over %v %v", r, c.axes)
			}
		}
	}
}

func TestMappedTensorsStay(t *testing.T) {
	for _, c := range slices.Concat(smallHoms(), greatHoms()) {
		for i, a := range axesCases[:12] {
			elems := elemsFor(c.from, a.size, i)
			before := tensorWith(a.axes, elems)
			tensor := spareTensor(before)
			want := tensorWith(a.axes, imagesOf(c, elems))
			for range 2 {
				got := mapped(t, c, tensor)
				sameTensor(t, "an image", got, want)
				spoilTensor(got)
			}
			stays(t, "a part of a tensor", tensor, before)
			noMap(t, homCase{c.from, c.to, hom(c.h.Kind, -1)}, tensor)
			stays(t, "a part of a tensor with a wrong homomorphism", tensor, before)
		}
	}
}

// Arguments may share memory with each other.
func TestArgumentsInCommonMemory(t *testing.T) {
	r := polyRing(7, 2)
	data := []int{1, 2, 3, 4, 5, 6}
	before := slices.Clone(data)
	labels, dims := []int{2}, []int{2}
	a := impl.Tensor{Labels: labels, Dims: dims, Data: data[:4]}
	b := impl.Tensor{Labels: labels, Dims: dims, Data: data[2:]}
	sameTensor(t, "a sum", plusTensors(t, r, a, b), impl.Tensor{Labels: []int{2}, Dims: []int{2}, Data: []int{4, 6, 1, 3}})
	sameTensor(t, "a product", timesTensors(t, r, b, a), impl.Tensor{Labels: []int{2}, Dims: []int{2}, Data: []int{3, 3, 1, 3}})
	sameTensor(t, "a scaled tensor", scaled(t, r, a, data[1:3]), impl.Tensor{Labels: []int{2}, Dims: []int{2}, Data: []int{2, 0, 6, 3}})
	sameList(t, "the data", data, before)
	sameList(t, "the labels", labels, []int{2})
	sameList(t, "the dimensions", dims, []int{2})
}

func TestPartsOfCombinedTensorsAreApart(t *testing.T) {
	r := capRing(1)
	l := []int{1}
	tensor := impl.Tensor{Labels: l, Dims: l, Data: l}
	sum, product := plusTensors(t, r, tensor, tensor), timesTensors(t, r, tensor, tensor)
	image := mapped(t, homCase{r, r, hom(impl.HSame, 0)}, tensor)
	partsApart(t, l, sum, product, scaled(t, r, tensor, l), image)
}

func TestInvalidTensorsStayWhenCombined(t *testing.T) {
	r := polyRing(7, 2)
	// The last one is valid, but the axes and the elements below do not suit it.
	valid := impl.Tensor{Labels: []int{4, 3}, Dims: []int{1, 2}, Data: []int{1, 2, 3, 4}}
	for _, before := range append(slices.Clone(brokenTensors), valid) {
		otherBefore := impl.Tensor{Labels: []int{4, 3}, Dims: []int{2, 1}, Data: []int{1, 2, 3, 4}}
		tensor, other, x := spareTensor(before), spareTensor(otherBefore), withSpare([]int{5, 7}, -9)
		noCombination(t, r, tensor, other)
		noScaling(t, r, tensor, x)
		noMap(t, homCase{r, modRing(5), hom(impl.HConst, 0)}, tensor)
		stays(t, "a part of a tensor", tensor, before)
		stays(t, "a part of the other tensor", other, otherBefore)
		sameList(t, "an invalid element", x[:5], []int{5, 7, -9, -9, -9})
	}
}
