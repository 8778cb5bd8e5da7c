package tests

import (
	"math"
	"slices"
	"testing"

	"loop.example/g03211/impl"
)

// wantedSlice follows the text of chapter 10. It takes t to have the label, and
// the value to be one of it.
func wantedSlice(r impl.Ring, t impl.Tensor, label int, value int) impl.Tensor {
	rest, _ := without(axesOf(t), []int{label})
	var elems [][]int
	elem := reader(r, t)
	eachValue(rest, func(at *values) {
		at[label] = value
		elems = append(elems, elem(at))
	})
	return tensorWith(rest, elems)
}

// wantedStack takes the tensors to have the same labels with the same
// dimensions, in any order.
func wantedStack(r impl.Ring, l []impl.Tensor, label int) impl.Tensor {
	a := axesOf(l[0])
	a = axes{slices.Concat(a.labels, []int{label}), slices.Concat(a.dims, []int{len(l)})}
	var elems [][]int
	eachValue(a, func(at *values) { elems = append(elems, reader(r, l[at[label]])(at)) })
	return tensorWith(a, elems)
}

// wantedFix takes slices one after another; it returns false if one fails.
func wantedFix(r impl.Ring, t impl.Tensor, labels []int, at []int) (impl.Tensor, bool) {
	if len(labels) != len(at) {
		return impl.Tensor{}, false
	}
	for k, label := range labels {
		axis := slices.Index(t.Labels, label)
		if axis < 0 {
			continue
		}
		if at[k] < 0 || at[k] >= t.Dims[axis] {
			return impl.Tensor{}, false
		}
		t = wantedSlice(r, t, label, at[k])
	}
	return t, true
}

func sliced(t *testing.T, r impl.Ring, tensor impl.Tensor, label int, value int) impl.Tensor {
	t.Helper()
	got, ok := impl.SliceTensor(r, tensor, label, value)
	if !ok || !impl.TensorOk(r, got) {
		t.Errorf("over %v SliceTensor of %v at %d with %d: %t, or no tensor", r, axesOf(tensor), label, value, ok)
	}
	return got
}

func stacked(t *testing.T, r impl.Ring, l []impl.Tensor, label int) impl.Tensor {
	t.Helper()
	got, ok := impl.StackTensors(r, l, label)
	if !ok || !impl.TensorOk(r, got) {
		t.Errorf("over %v StackTensors of %d with %v at %d: %t, or no tensor", r, len(l), axesOf(l[0]), label, ok)
	}
	return got
}

func fixed(t *testing.T, r impl.Ring, tensor impl.Tensor, labels []int, at []int) impl.Tensor {
	t.Helper()
	got, ok := impl.FixLabels(r, tensor, labels, at)
	if !ok || !impl.TensorOk(r, got) {
		t.Errorf("over %v FixLabels of %v at %v with %v: %t, or no tensor", r, axesOf(tensor), labels, at, ok)
	}
	return got
}

func noSlice(t *testing.T, r impl.Ring, tensor impl.Tensor, label int, value int) {
	t.Helper()
	got, ok := impl.SliceTensor(r, tensor, label, value)
	noTensor(t, "SliceTensor with wrong arguments", got)
	if ok {
		t.Errorf("over %v SliceTensor of %v at %d with %d gives true", r, axesOf(tensor), label, value)
	}
}

func noStack(t *testing.T, r impl.Ring, l []impl.Tensor, label int) {
	t.Helper()
	got, ok := impl.StackTensors(r, l, label)
	noTensor(t, "StackTensors with wrong arguments", got)
	if ok {
		t.Errorf("over %v StackTensors of %d at %d gives true", r, len(l), label)
	}
}

func noFix(t *testing.T, r impl.Ring, tensor impl.Tensor, labels []int, at []int) {
	t.Helper()
	got, ok := impl.FixLabels(r, tensor, labels, at)
	noTensor(t, "FixLabels with wrong arguments", got)
	if ok {
		t.Errorf("over %v FixLabels of %v at %v with %v gives true", r, axesOf(tensor), labels, at)
	}
}

// sameFix compares with slices that are taken one after another, whether they
// succeed or not.
func sameFix(t *testing.T, r impl.Ring, tensor impl.Tensor, labels []int, at []int) {
	t.Helper()
	want, ok := wantedFix(r, tensor, labels, at)
	if !ok {
		noFix(t, r, tensor, labels, at)
		return
	}
	sameTensor(t, "a tensor with labels fixed", fixed(t, r, tensor, labels, at), want)
}

// box has three axes, of which the middle one has another dimension; its
// elements tell their places.
func box() impl.Tensor {
	return impl.Tensor{Labels: []int{4, 1, 7}, Dims: []int{2, 3, 2}, Data: []int{0, 1, 2, 3, 4, 5, 6, 7, 8, 9, 10, 11}}
}

func TestSliceTensor(t *testing.T) {
	r := modRing(1000003)
	flat := impl.Tensor{Labels: []int{9, 0, 5}, Dims: []int{1, 2, 1}, Data: []int{3, 4}}
	for _, c := range []struct {
		r     impl.Ring
		t     impl.Tensor
		label int
		value int
		want  impl.Tensor
	}{
		{r, box(), 4, 0, impl.Tensor{Labels: []int{1, 7}, Dims: []int{3, 2}, Data: []int{0, 1, 2, 3, 4, 5}}},
		{r, box(), 4, 1, impl.Tensor{Labels: []int{1, 7}, Dims: []int{3, 2}, Data: []int{6, 7, 8, 9, 10, 11}}},
		{r, box(), 1, 0, square(4, 7, 0, 1, 6, 7)},
		{r, box(), 1, 1, square(4, 7, 2, 3, 8, 9)},
		{r, box(), 1, 2, square(4, 7, 4, 5, 10, 11)},
		{r, box(), 7, 0, impl.Tensor{Labels: []int{4, 1}, Dims: []int{2, 3}, Data: []int{0, 2, 4, 6, 8, 10}}},
		{r, box(), 7, 1, impl.Tensor{Labels: []int{4, 1}, Dims: []int{2, 3}, Data: []int{1, 3, 5, 7, 9, 11}}},
		// One axis, and axes of dimension 1.
		{r, line(3, 3, 5, 6, 8), 3, 0, point(5)},
		{r, line(3, 3, 5, 6, 8), 3, 1, point(6)},
		{r, line(3, 3, 5, 6, 8), 3, 2, point(8)},
		{r, line(0, 1, 5), 0, 0, point(5)},
		{r, line(99, 8, 0, 1, 2, 3, 4, 5, 6, 7), 99, 7, point(7)},
		{r, flat, 9, 0, impl.Tensor{Labels: []int{0, 5}, Dims: []int{2, 1}, Data: []int{3, 4}}},
		{r, flat, 5, 0, impl.Tensor{Labels: []int{9, 0}, Dims: []int{1, 2}, Data: []int{3, 4}}},
		{r, flat, 0, 0, impl.Tensor{Labels: []int{9, 5}, Dims: []int{1, 1}, Data: []int{3}}},
		{r, flat, 0, 1, impl.Tensor{Labels: []int{9, 5}, Dims: []int{1, 1}, Data: []int{4}}},
		// The other rings.
		{boolRing(), square(3, 5, 1, 0, 0, 1), 3, 1, line(5, 2, 0, 1)},
		{capRing(9), square(3, 5, 2, 6, 7, 9), 5, 1, line(3, 2, 6, 9)},
		{minRing(9), square(3, 5, 2, 6, 7, 9), 3, 0, line(5, 2, 2, 6)},
		{wideRing(9), square(3, 5, 2, 6, 7, 9), 5, 0, line(3, 2, 2, 7)},
		{setRing(4), square(3, 5, 2, 6, 15, 9), 3, 1, line(5, 2, 15, 9)},
		{polyRing(7, 1), square(3, 5, 2, 6, 5, 4), 3, 1, line(5, 2, 5, 4)},
		{polyRing(7, 2), square(3, 5, 1, 2, 3, 4, 5, 6, 0, 1), 3, 1, line(5, 2, 5, 6, 0, 1)},
		{polyRing(7, 2), square(3, 5, 1, 2, 3, 4, 5, 6, 0, 1), 5, 1, line(3, 2, 3, 4, 0, 1)},
		{polyRing(7, 3), line(3, 2, 1, 2, 3, 4, 5, 6), 3, 1, point(4, 5, 6)},
		{omegaRing(17), line(3, 2, 1, 2, 3, 4, 16, 0, 14, 13), 3, 1, point(16, 0, 14, 13)},
	} {
		sameTensor(t, "a slice", sliced(t, c.r, c.t, c.label, c.value), c.want)
	}
}

// notValues returns integers that are not below the dimension of an axis.
func notValues(d int) []int {
	return []int{-1, -2, -d, d, d + 1, 2 * d, d + 8, 1 << 32, 1<<32 + d - 1, -1 << 32, math.MinInt, math.MaxInt}
}

// notLabels returns integers that are not labels of axesCases with this one.
func notLabels(label int) []int {
	return []int{freeLabel, -1, 100, label + 100, label - 100, -label - 1, label + 1<<32, math.MinInt, math.MaxInt}
}

func TestNoSlices(t *testing.T) {
	r := modRing(1000003)
	for _, label := range []int{0, 2, 3, 5, 6, 8, 99, 100, -1, -4, -7, 11, 4 + 1<<32, math.MinInt, math.MaxInt} {
		for _, value := range []int{0, 1, 2, -1, 3} {
			noSlice(t, r, box(), label, value)
			noSlice(t, r, point(5), label, value)
		}
	}
	for _, value := range notValues(2) {
		noSlice(t, r, box(), 4, value)
		noSlice(t, r, box(), 7, value)
	}
	for _, value := range notValues(3) {
		noSlice(t, r, box(), 1, value)
	}
	// Where another axis would have this value.
	noSlice(t, r, box(), 4, 2)
	noSlice(t, r, impl.Tensor{Labels: []int{2, 5}, Dims: []int{1, 8}, Data: []int{0, 1, 2, 3, 4, 5, 6, 7}}, 2, 1)
	noSlice(t, r, impl.Tensor{Labels: []int{2, 5}, Dims: []int{8, 1}, Data: []int{0, 1, 2, 3, 4, 5, 6, 7}}, 5, 1)
	noSlice(t, r, line(0, 1, 5), 0, 1)
	noSlice(t, r, line(0, 1, 5), 0, -1)
}

func TestSliceManyTensors(t *testing.T) {
	for _, r := range fullRings() {
		for i, c := range axesCases {
			tensor := tensorWith(c.axes, elemsFor(r, c.size, i))
			for k, label := range c.labels {
				for value := range c.dims[k] {
					if c.size > 1000 && (k+value+r.Kind+r.N)%4 != 0 {
						// Every slice comes over some of the rings.
						continue
					}
					got := sliced(t, r, tensor, label, value)
					sameTensor(t, "a slice", got, wantedSlice(r, tensor, label, value))
					sameTensor(t, "a tensor with one label fixed", fixed(t, r, tensor, []int{label}, []int{value}), got)
				}
				for _, value := range notValues(c.dims[k]) {
					noSlice(t, r, tensor, label, value)
				}
				for _, other := range notLabels(label) {
					noSlice(t, r, tensor, other, 0)
				}
			}
			noSlice(t, r, tensor, freeLabel, 0)
			if t.Failed() {
				t.Fatalf("over %v of %v", r, c.axes)
			}
		}
	}
}

// Values that no two elements share show where each one comes from.
func TestSlicesKeepTheirIndices(t *testing.T) {
	t.Parallel()
	r := modRing(1000003)
	for _, c := range axesCases {
		tensor := c.tensor()
		for n := range c.size {
			tensor.Data = append(tensor.Data, n)
		}
		for k, label := range c.labels {
			for value := range c.dims[k] {
				got := sliced(t, r, tensor, label, value)
				sameList(t, "the labels of a slice", got.Labels, slices.Delete(slices.Clone(c.labels), k, k+1))
				sameList(t, "the dimensions of a slice", got.Dims, slices.Delete(slices.Clone(c.dims), k, k+1))
				for n, index := range indicesOf(got.Dims) {
					want := impl.OffsetOf(tensor, slices.Insert(slices.Clone(index), k, value))
					if got.Data[n] != want {
						t.Fatalf("%v at %d with %d: %d at %v, not %d", c.axes, label, value, got.Data[n], index, want)
					}
				}
			}
		}
	}
}

// All the places and dimensions that an axis of four can have.
func TestSlicesAtEveryPlace(t *testing.T) {
	labels := []int{8, 3, 99, 0}
	for _, r := range []impl.Ring{modRing(1000003), polyRing(7, 2)} {
		for _, dims := range listsOf(4, 1, 2, 3) {
			tensor := tensorWith(axes{labels[:len(dims)], dims}, elemsFor(r, countOf(dims), 1))
			for k, d := range dims {
				for value := -1; value <= 3; value++ {
					if value < 0 || value >= d {
						noSlice(t, r, tensor, labels[k], value)
						continue
					}
					sameTensor(t, "a slice", sliced(t, r, tensor, labels[k], value), wantedSlice(r, tensor, labels[k], value))
				}
			}
		}
	}
}

func TestStackTensors(t *testing.T) {
	r := modRing(1000003)
	a := impl.Tensor{Labels: []int{2, 5}, Dims: []int{2, 3}, Data: []int{0, 1, 2, 3, 4, 5}}
	turned := impl.Tensor{Labels: []int{5, 2}, Dims: []int{3, 2}, Data: []int{10, 13, 11, 14, 12, 15}}
	for _, c := range []struct {
		r     impl.Ring
		l     []impl.Tensor
		label int
		want  impl.Tensor
	}{
		// Without axes.
		{r, []impl.Tensor{point(5)}, 3, line(3, 1, 5)},
		{r, []impl.Tensor{point(5), point(6)}, 3, line(3, 2, 5, 6)},
		{r, []impl.Tensor{point(5), {Labels: []int{}, Dims: []int{}, Data: []int{6}}, point(5)}, 0, line(0, 3, 5, 6, 5)},
		{r, []impl.Tensor{point(0), point(1), point(2), point(3), point(4), point(5), point(6), point(7)}, 99, line(99, 8, 0, 1, 2, 3, 4, 5, 6, 7)},
		// The same order of the axes, and the other one.
		{r, []impl.Tensor{line(5, 2, 1, 4), line(5, 2, 2, 3)}, 9, square(5, 9, 1, 2, 4, 3)},
		{r, []impl.Tensor{line(5, 2, 1, 4), line(5, 2, 1, 4)}, 0, square(5, 0, 1, 1, 4, 4)},
		{r, []impl.Tensor{a}, 9, impl.Tensor{Labels: []int{2, 5, 9}, Dims: []int{2, 3, 1}, Data: []int{0, 1, 2, 3, 4, 5}}},
		{r, []impl.Tensor{turned}, 3, impl.Tensor{Labels: []int{5, 2, 3}, Dims: []int{3, 2, 1}, Data: []int{10, 13, 11, 14, 12, 15}}},
		{r, []impl.Tensor{a, turned}, 9, impl.Tensor{Labels: []int{2, 5, 9}, Dims: []int{2, 3, 2}, Data: []int{0, 10, 1, 11, 2, 12, 3, 13, 4, 14, 5, 15}}},
		{r, []impl.Tensor{turned, a}, 9, impl.Tensor{Labels: []int{5, 2, 9}, Dims: []int{3, 2, 2}, Data: []int{10, 0, 13, 3, 11, 1, 14, 4, 12, 2, 15, 5}}},
		{r, []impl.Tensor{a, a, turned}, 0, impl.Tensor{Labels: []int{2, 5, 0}, Dims: []int{2, 3, 3}, Data: []int{0, 0, 10, 1, 1, 11, 2, 2, 12, 3, 3, 13, 4, 4, 14, 5, 5, 15}}},
		{r, []impl.Tensor{square(0, 1, 1, 2, 3, 4), square(1, 0, 5, 6, 7, 8)}, 2, cube(0, 1, 2, 1, 5, 2, 7, 3, 6, 4, 8)},
		// The other rings.
		{boolRing(), []impl.Tensor{line(5, 2, 1, 0), line(5, 2, 0, 0)}, 9, square(5, 9, 1, 0, 0, 0)},
		{capRing(9), []impl.Tensor{line(5, 2, 9, 8), line(5, 2, 7, 9)}, 9, square(5, 9, 9, 7, 8, 9)},
		{minRing(9), []impl.Tensor{line(5, 2, 9, 0), line(5, 2, 7, 9)}, 9, square(5, 9, 9, 7, 0, 9)},
		{wideRing(9), []impl.Tensor{line(5, 2, 9, 0), line(5, 2, 7, 9)}, 9, square(5, 9, 9, 7, 0, 9)},
		{setRing(4), []impl.Tensor{line(5, 2, 15, 8), line(5, 2, 7, 0)}, 9, square(5, 9, 15, 7, 8, 0)},
		{polyRing(7, 2), []impl.Tensor{line(5, 2, 1, 2, 3, 4), line(5, 2, 5, 6, 0, 1)}, 9, square(5, 9, 1, 2, 5, 6, 3, 4, 0, 1)},
		{polyRing(7, 3), []impl.Tensor{point(1, 2, 3), point(4, 5, 6)}, 9, line(9, 2, 1, 2, 3, 4, 5, 6)},
		{omegaRing(17), []impl.Tensor{point(1, 2, 3, 4), point(0, 16, 0, 15)}, 9, line(9, 2, 1, 2, 3, 4, 0, 16, 0, 15)},
	} {
		sameTensor(t, "a stack", stacked(t, c.r, c.l, c.label), c.want)
	}
}

// stackOf returns n tensors that differ, with the axes in orders that differ
// where several are given.
func stackOf(r impl.Ring, a axes, n int, orders ...[]int) []impl.Tensor {
	l := make([]impl.Tensor, n)
	for k := range l {
		l[k] = tensorWith(a, elemsFor(r, countOf(a.dims), 3*k+1))
		if len(orders) > 0 {
			l[k] = wantedPermutation(a, elemsFor(r, countOf(a.dims), 3*k+1), orders[k%len(orders)])
		}
	}
	return l
}

func TestStackManyTensors(t *testing.T) {
	t.Parallel()
	for _, r := range fullRings() {
		for i, c := range axesCases {
			for n := 1; n <= 8; n++ {
				fits := c.size*n <= 4096 && len(c.labels) < 12
				if fits && c.size > 300 && (i+n+r.Kind+r.N)%3 != 0 {
					// Every number of tensors comes over some of the rings.
					continue
				}
				if !fits {
					tensor := tensorWith(c.axes, elemsFor(r, c.size, i))
					noStack(t, r, slices.Repeat([]impl.Tensor{tensor}, n), freeLabel)
					continue
				}
				l := stackOf(r, c.axes, n, someOrders(c.labels)...)
				got := stacked(t, r, l, freeLabel)
				sameTensor(t, "a stack", got, wantedStack(r, l, freeLabel))
				for k := range l {
					want := wantedPermutation(axesOf(l[k]), elemsFrom(r, l[k]), l[0].Labels)
					sameTensor(t, "a slice of a stack", sliced(t, r, got, freeLabel, k), want)
				}
				for _, k := range notValues(n) {
					noSlice(t, r, got, freeLabel, k)
				}
				if t.Failed() {
					t.Fatalf("over %v of %d with %v", r, n, c.axes)
				}
			}
		}
	}
}

// elemsFrom returns the elements of a tensor, which the results may share.
func elemsFrom(r impl.Ring, tensor impl.Tensor) [][]int {
	return slices.Collect(slices.Chunk(tensor.Data, impl.RingWidth(r)))
}

func TestStackInEveryOrder(t *testing.T) {
	for _, r := range []impl.Ring{modRing(1000003), setRing(20), polyRing(7, 3), omegaRing(17)} {
		for _, dims := range [][]int{{2, 3, 4}, {3, 3, 3}, {2, 2, 5}, {1, 3, 2}, {1, 1, 4}, {1, 1, 1}} {
			a := axes{[]int{7, 98, 3}, dims}
			for _, first := range allOrders(a.labels) {
				for _, second := range allOrders(a.labels) {
					l := stackOf(r, a, 3, first, second, a.labels)
					sameTensor(t, "a stack", stacked(t, r, l, 5), wantedStack(r, l, 5))
				}
			}
			if t.Failed() {
				t.Fatalf("over %v with %v", r, dims)
			}
		}
	}
}

// Values that no two elements of the tensors share show where each one comes
// from.
func TestStacksKeepTheirIndices(t *testing.T) {
	r := modRing(1000003)
	for _, c := range axesCases {
		for n := 1; n <= 8 && c.size*n <= 4096 && len(c.labels) < 12; n++ {
			l := make([]impl.Tensor, n)
			for k := range l {
				l[k] = axes{rotated(c.labels, k), rotated(c.dims, k)}.tensor()
				for place := range c.size {
					l[k].Data = append(l[k].Data, 4096*k+place)
				}
			}
			got := stacked(t, r, l, freeLabel)
			sameList(t, "the labels of a stack", got.Labels, append(slices.Clone(c.labels), freeLabel))
			sameList(t, "the dimensions of a stack", got.Dims, append(slices.Clone(c.dims), n))
			for place, index := range indicesOf(got.Dims) {
				k := index[len(c.labels)]
				want := 4096*k + impl.OffsetOf(l[k], rotated(index[:len(c.labels)], k))
				if got.Data[place] != want {
					t.Fatalf("%d with %v: %d at %v, not %d", n, c.axes, got.Data[place], index, want)
				}
			}
		}
	}
}

func TestEveryNumberOfTensors(t *testing.T) {
	r := modRing(1000003)
	for n := range 100 {
		var l, lines []impl.Tensor
		for k := range n {
			l = append(l, point(k))
			lines = append(lines, line(6, 2, k, 100+k))
		}
		if n < 1 || n > 8 {
			noStack(t, r, l, 3)
			noStack(t, r, lines, 3)
			continue
		}
		sameTensor(t, "a stack of points", stacked(t, r, l, 3), wantedStack(r, l, 3))
		sameTensor(t, "a stack of lines", stacked(t, r, lines, 3), wantedStack(r, lines, 3))
	}
	for _, n := range []int{1 << 8, 1<<8 + 1, 1<<16 + 1} {
		noStack(t, r, slices.Repeat([]impl.Tensor{point(5)}, n), 3)
	}
	for _, label := range []int{-1, 0, 99, 100} {
		noStack(t, r, nil, label)
		noStack(t, r, []impl.Tensor{}, label)
	}
}

func TestEveryLabelOfAStack(t *testing.T) {
	r := polyRing(7, 2)
	a := axes{[]int{4, 1, 98}, []int{2, 3, 1}}
	l := stackOf(r, a, 3, a.labels, backward(a.labels))
	for label := -300; label <= 300; label++ {
		if label < 0 || label > 99 || slices.Contains(a.labels, label) {
			noStack(t, r, l, label)
			noStack(t, r, l[:1], label)
			continue
		}
		sameTensor(t, "a stack", stacked(t, r, l, label), wantedStack(r, l, label))
	}
	for _, label := range []int{1 << 32, 5 + 1<<32, -1 << 32, math.MinInt, math.MaxInt} {
		noStack(t, r, l, label)
		noStack(t, r, []impl.Tensor{point(1, 2)}, label)
	}
	// The label of the stack has its dimension already, in every place.
	for _, label := range a.labels {
		noStack(t, r, stackOf(r, axes{a.labels, []int{2, 2, 2}}, 2), label)
		noStack(t, r, stackOf(r, axes{a.labels, []int{1, 1, 1}}, 1), label)
	}
}

// Tensors with other axes stand at every place of the list.
func TestNoStacksOfTensorsWithOtherAxes(t *testing.T) {
	for _, r := range []impl.Ring{boolRing(), minRing(9), polyRing(7, 2), omegaRing(17)} {
		for _, c := range axesCases {
			if c.size*3 > 4096 || len(c.labels) > 11 {
				continue
			}
			for _, other := range otherAxes(c.axes) {
				size := impl.TensorSize(other.tensor())
				if size < 0 || size*3 > 4096 {
					continue
				}
				b := tensorWith(other, elemsFor(r, size, 2))
				for k := range 3 {
					l := stackOf(r, c.axes, 3)
					l[k] = b
					noStack(t, r, l, freeLabel+1)
				}
				noStack(t, r, append(stackOf(r, c.axes, 1), b), freeLabel+1)
			}
		}
	}
	// These have as many integers, and the same dimensions or labels in part.
	r := boolRing()
	six := elemsFor(r, 6, 1)
	a := tensorWith(axes{[]int{2, 5}, []int{2, 3}}, six)
	for _, other := range []axes{
		{[]int{2, 5}, []int{3, 2}}, {[]int{5, 2}, []int{2, 3}}, {[]int{2}, []int{6}}, {[]int{5}, []int{6}}, {[]int{2, 5}, []int{1, 6}}, {[]int{2, 5}, []int{6, 1}},
		{[]int{2, 5, 9}, []int{2, 3, 1}}, {[]int{2, 9}, []int{2, 3}}, {[]int{9, 5}, []int{2, 3}}, {[]int{7, 9}, []int{2, 3}}, {[]int{1, 2, 5}, []int{1, 2, 3}},
	} {
		b := tensorWith(other, six)
		noStack(t, r, []impl.Tensor{a, b}, 8)
		noStack(t, r, []impl.Tensor{b, a}, 8)
		noStack(t, r, []impl.Tensor{a, a, b, a}, 8)
	}
	noStack(t, r, []impl.Tensor{point(1), line(0, 1, 1)}, 8)
	noStack(t, r, []impl.Tensor{line(0, 1, 1), point(1)}, 8)
	// The label of the stack is not one that the others may have.
	noStack(t, r, []impl.Tensor{line(0, 2, 1, 1), square(0, 8, 1, 1, 1, 1)}, 8)
}

func TestLimitsOfStacks(t *testing.T) {
	r := modRing(1000003)
	for _, c := range []struct {
		dims []int
		n    int
		ok   bool
	}{
		{[]int{8, 8, 8}, 8, true},
		{[]int{8, 8, 8}, 9, false},
		{[]int{8, 8, 8, 8}, 1, true},
		{[]int{8, 8, 8, 8}, 2, false},
		{[]int{8, 8, 8, 4}, 2, true},
		{[]int{8, 8, 8, 4}, 3, false},
		{[]int{8, 8, 8, 2}, 4, true},
		{[]int{8, 8, 8, 2}, 5, false},
		{[]int{5, 7, 3, 8}, 4, true},
		{[]int{5, 7, 3, 8}, 5, false},
		{[]int{4, 4, 4, 4, 4}, 4, true},
		{[]int{4, 4, 4, 4, 4}, 5, false},
		{[]int{5, 5, 5, 5}, 6, true},
		{[]int{5, 5, 5, 5}, 7, false},
		{[]int{3, 3, 7, 5, 2}, 6, true},
		{[]int{3, 3, 7, 5, 2}, 7, false},
		// Ranks.
		{slices.Repeat([]int{2}, 11), 1, true},
		{slices.Repeat([]int{2}, 11), 2, true},
		{slices.Repeat([]int{2}, 11), 3, false},
		{slices.Repeat([]int{1}, 11), 1, true},
		{slices.Repeat([]int{1}, 11), 8, true},
		{slices.Repeat([]int{1}, 11), 9, false},
		{slices.Repeat([]int{1}, 10), 8, true},
		{slices.Repeat([]int{1}, 12), 1, false},
		{slices.Repeat([]int{1}, 12), 2, false},
		{slices.Repeat([]int{2}, 12), 1, false},
		{slices.Repeat([]int{2}, 12), 2, false},
	} {
		a := axes{labelsFrom(2, len(c.dims)), c.dims}
		l := stackOf(r, a, c.n, a.labels, backward(a.labels))
		label := labelsFrom(2, len(c.dims)+1)[len(c.dims)]
		if !c.ok {
			noStack(t, r, l, label)
			continue
		}
		sameTensor(t, "a great stack", stacked(t, r, l, label), wantedStack(r, l, label))
	}
}

func TestStackAllSmallTensors(t *testing.T) {
	tensors := smallTensors()
	r := boolRing()
	for _, a := range tensors {
		dims, _ := entries(a)
		for _, b := range tensors {
			otherDims, _ := entries(b)
			for label := range 3 {
				l := []impl.Tensor{a, b}
				if !sameEntries(dims, otherDims) || slices.Contains(a.Labels, label) {
					noStack(t, r, l, label)
					continue
				}
				sameTensor(t, "a stack", stacked(t, r, l, label), wantedStack(r, l, label))
			}
		}
	}
}

func TestFixLabels(t *testing.T) {
	r := modRing(1000003)
	for _, c := range []struct {
		labels []int
		at     []int
		want   impl.Tensor
	}{
		{nil, nil, box()},
		{[]int{}, []int{}, box()},
		{[]int{}, nil, box()},
		{[]int{4}, []int{1}, impl.Tensor{Labels: []int{1, 7}, Dims: []int{3, 2}, Data: []int{6, 7, 8, 9, 10, 11}}},
		{[]int{1}, []int{2}, square(4, 7, 4, 5, 10, 11)},
		{[]int{7}, []int{1}, impl.Tensor{Labels: []int{4, 1}, Dims: []int{2, 3}, Data: []int{1, 3, 5, 7, 9, 11}}},
		{[]int{4, 1}, []int{1, 2}, line(7, 2, 10, 11)},
		{[]int{1, 4}, []int{2, 1}, line(7, 2, 10, 11)},
		{[]int{4, 7}, []int{0, 1}, line(1, 3, 1, 3, 5)},
		{[]int{7, 4}, []int{1, 0}, line(1, 3, 1, 3, 5)},
		{[]int{1, 7}, []int{1, 0}, line(4, 2, 2, 8)},
		{[]int{7, 1}, []int{0, 1}, line(4, 2, 2, 8)},
		{[]int{4, 1, 7}, []int{1, 2, 0}, point(10)},
		{[]int{7, 4, 1}, []int{0, 1, 2}, point(10)},
		{[]int{1, 7, 4}, []int{2, 0, 1}, point(10)},
		{[]int{1, 7, 4}, []int{0, 0, 0}, point(0)},
		// Labels that the tensor does not have are passed over.
		{[]int{5}, []int{0}, box()},
		{[]int{5, 0, 99}, []int{-1, 9, math.MaxInt}, box()},
		{[]int{-1, 100, 4 + 1<<32, math.MinInt, math.MaxInt}, []int{7, -7, math.MinInt, 0, 1}, box()},
		{[]int{5, 1, 8}, []int{7, 1, -1}, square(4, 7, 2, 3, 8, 9)},
		{[]int{4, 6, 6, 7}, []int{0, 5, -5, 1}, line(1, 3, 1, 3, 5)},
		// The second time a label is not there any more.
		{[]int{1, 1}, []int{2, 0}, square(4, 7, 4, 5, 10, 11)},
		{[]int{1, 1}, []int{0, 2}, square(4, 7, 0, 1, 6, 7)},
		{[]int{1, 1, 1}, []int{0, 3, -1}, square(4, 7, 0, 1, 6, 7)},
		{[]int{4, 1, 4, 1}, []int{1, 2, 9, math.MinInt}, line(7, 2, 10, 11)},
		{[]int{4, 1, 7, 4, 1, 7}, []int{1, 2, 0, 0, 0, 1}, point(10)},
		{[]int{9, 4, 9, 4}, []int{8, 1, 8, 2}, impl.Tensor{Labels: []int{1, 7}, Dims: []int{3, 2}, Data: []int{6, 7, 8, 9, 10, 11}}},
	} {
		sameTensor(t, "a tensor with labels fixed", fixed(t, r, box(), c.labels, c.at), c.want)
		want, ok := wantedFix(r, box(), c.labels, c.at)
		sameTensor(t, "slices one after another", want, c.want)
		if t.Failed() || !ok {
			t.Fatalf("%v with %v", c.labels, c.at)
		}
	}
	sameTensor(t, "a tensor without axes", fixed(t, r, point(5), nil, nil), point(5))
	sameTensor(t, "a tensor without axes", fixed(t, r, point(5), []int{0, 3, -1}, []int{-1, 0, 8}), point(5))
	sameTensor(t, "pairs", fixed(t, polyRing(7, 2), square(3, 5, 1, 2, 3, 4, 5, 6, 0, 1), []int{5, 3}, []int{0, 1}), point(5, 6))
	sameTensor(t, "pairs", fixed(t, polyRing(7, 2), square(3, 5, 1, 2, 3, 4, 5, 6, 0, 1), []int{5}, []int{1}), line(3, 2, 3, 4, 0, 1))
}

func TestNoFixedLabels(t *testing.T) {
	r := modRing(1000003)
	for _, c := range []struct {
		labels []int
		at     []int
	}{
		// Lists of different lengths.
		{nil, []int{0}},
		{[]int{4}, nil},
		{[]int{5}, nil},
		{[]int{}, []int{0}},
		{[]int{4, 1}, []int{0}},
		{[]int{4}, []int{0, 0}},
		{[]int{4, 4}, []int{0}},
		{[]int{4, 5}, []int{0}},
		{[]int{5, 4}, []int{0}},
		{[]int{4, 1, 7}, []int{0, 0, 0, 0}},
		{[]int{4, 1, 7, 9}, []int{0, 0, 0}},
		// A value that is none of its label, alone or behind or before others.
		{[]int{4}, []int{2}},
		{[]int{4}, []int{-1}},
		{[]int{1}, []int{3}},
		{[]int{7}, []int{2}},
		{[]int{7}, []int{math.MinInt}},
		{[]int{7}, []int{math.MaxInt}},
		{[]int{1}, []int{1 << 32}},
		{[]int{4, 1}, []int{1, 3}},
		{[]int{4, 1}, []int{2, 2}},
		{[]int{1, 4}, []int{2, 2}},
		{[]int{1, 4}, []int{2, -1}},
		{[]int{4, 1, 7}, []int{1, 2, 2}},
		{[]int{4, 1, 7}, []int{0, 0, -1}},
		{[]int{4, 1, 7}, []int{2, 2, 1}},
		{[]int{7, 1, 4}, []int{1, 3, 1}},
		{[]int{5, 1}, []int{0, 3}},
		{[]int{1, 5}, []int{3, 0}},
		{[]int{1, 1}, []int{3, 0}},
		{[]int{1, 1}, []int{-1, 2}},
		{[]int{4, 1, 4, 1}, []int{0, 5, 0, 0}},
	} {
		noFix(t, r, box(), c.labels, c.at)
		if _, ok := wantedFix(r, box(), c.labels, c.at); ok {
			t.Errorf("%v with %v are slices", c.labels, c.at)
		}
	}
	noFix(t, r, point(5), nil, []int{0})
	noFix(t, r, point(5), []int{0}, nil)
	noFix(t, r, line(0, 1, 5), []int{0}, []int{1})
}

func TestFixEveryShortList(t *testing.T) {
	t.Parallel()
	for _, r := range []impl.Ring{modRing(1000003), polyRing(7, 2)} {
		for _, a := range []axes{{nil, nil}, {[]int{1}, []int{2}}, {[]int{2, 0}, []int{2, 3}}, {[]int{0, 2, 1}, []int{1, 3, 2}}} {
			tensor := tensorWith(a, elemsFor(r, countOf(a.dims), 1))
			for _, labels := range listsOf(3, 0, 1, 2, 100) {
				for _, at := range listsOf(3, -1, 0, 1, 2, 3) {
					sameFix(t, r, tensor, labels, at)
				}
			}
		}
	}
}

func TestFixManyTensors(t *testing.T) {
	t.Parallel()
	for _, r := range fullRings() {
		for i, c := range axesCases {
			tensor := tensorWith(c.axes, elemsFor(r, c.size, i))
			lists := slices.Concat(someOrders(c.labels), [][]int{{freeLabel, -1, 100}, nil})
			for n := range c.labels {
				lists = append(lists, c.labels[n:], c.labels[:n], backward(c.labels)[n:])
				lists = append(lists, slices.Insert(slices.Clone(c.labels), n, freeLabel, c.labels[n], -1))
			}
			for n, labels := range lists {
				if c.size > 1000 && (n+r.Kind+r.N)%4 != 0 {
					// Every list comes over some of the rings.
					continue
				}
				at := make([]int, len(labels))
				for k, label := range labels {
					if axis := slices.Index(c.labels, label); axis >= 0 {
						at[k] = (k + n + i) % c.dims[axis]
					}
				}
				sameFix(t, r, tensor, labels, at)
				for k := range at {
					wrong := slices.Clone(at)
					wrong[k] = notValues(8)[(k+n)%12]
					sameFix(t, r, tensor, labels, wrong)
				}
				noFix(t, r, tensor, labels, append(slices.Clone(at), 0))
				noFix(t, r, tensor, append(slices.Clone(labels), freeLabel), at)
			}
			if t.Failed() {
				t.Fatalf("over %v of %v", r, c.axes)
			}
		}
	}
}

func TestFixInEveryOrder(t *testing.T) {
	for _, r := range []impl.Ring{modRing(1000003), setRing(20), polyRing(7, 3), omegaRing(17)} {
		a := axes{[]int{7, 98, 3, 0}, []int{2, 3, 4, 2}}
		tensor := tensorWith(a, elemsFor(r, 48, 1))
		for _, labels := range subsets(a.labels) {
			var at []int
			for k, label := range labels {
				at = append(at, (k+1)%a.dims[slices.Index(a.labels, label)])
			}
			want, _ := wantedFix(r, tensor, labels, at)
			for _, order := range allOrders(labels) {
				moved := make([]int, len(order))
				one := tensor
				for k, label := range order {
					moved[k] = at[slices.Index(labels, label)]
					one = sliced(t, r, one, label, moved[k])
				}
				sameTensor(t, "a tensor with labels fixed", fixed(t, r, tensor, order, moved), want)
				sameTensor(t, "slices one after another", one, want)
			}
		}
	}
}

func TestFixLongLists(t *testing.T) {
	r := modRing(1000003)
	var labels, at []int
	for n := range 20000 {
		labels = append(labels, n-10000)
		at = append(at, n-10000)
	}
	// The values of the labels 4 and 7 are too great.
	noFix(t, r, box(), labels, at)
	at[10004], at[10001], at[10007] = 1, 2, 0
	sameTensor(t, "a tensor with all labels fixed", fixed(t, r, box(), labels, at), point(10))
	noFix(t, r, box(), labels, at[1:])
	labels = slices.Concat([]int{7}, slices.Repeat([]int{5, 7, -1, 100}, 10000))
	at = slices.Repeat([]int{1, -1, 2, 3, 0}, 8001)[:len(labels)]
	sameTensor(t, "a tensor with a label fixed again and again", fixed(t, r, box(), labels, at), sliced(t, r, box(), 7, 1))
}

// noSlices looks for the answers of all the functions to arguments among which
// the ring or the tensor is not valid; the other tensor has suitable axes, if
// there are any.
func noSlices(t *testing.T, r impl.Ring, tensor impl.Tensor, other impl.Tensor) {
	t.Helper()
	noSlice(t, r, tensor, freeLabel, 0)
	noSlice(t, r, tensor, 0, 0)
	noFix(t, r, tensor, nil, nil)
	noFix(t, r, tensor, []int{freeLabel}, []int{0})
	noFix(t, r, tensor, tensor.Labels, make([]int, len(tensor.Labels)))
	for _, label := range tensor.Labels[:min(4, len(tensor.Labels))] {
		noSlice(t, r, tensor, label, 0)
		noFix(t, r, tensor, []int{label}, []int{0})
	}
	for _, l := range [][]impl.Tensor{
		{tensor}, {tensor, tensor}, {tensor, other}, {other, tensor}, {other, other, tensor}, {other, tensor, other},
		{{Data: impl.OneOf(r)}, tensor}, {tensor, {Data: impl.OneOf(r)}}, {tensor, {}}, {{}, tensor},
	} {
		noStack(t, r, l, freeLabel)
	}
}

func TestNoSlicesOfWrongTensors(t *testing.T) {
	for _, a := range notAxes {
		for _, data := range [][]int{nil, {0}, {0, 0}, dataOf(a.dims)} {
			tensor := impl.Tensor{Labels: a.labels, Dims: a.dims, Data: data}
			noSlices(t, boolRing(), tensor, impl.Tensor{Labels: a.labels, Dims: slices.Repeat([]int{1}, len(a.labels)), Data: []int{1}})
			noSlices(t, polyRing(7, 1), tensor, tensor)
		}
	}
	small := []axes{{[]int{3, 5}, []int{2, 2}}, {[]int{5, 3, 1}, []int{1, 2, 1}}}
	for _, c := range axesCases[:13] {
		small = append(small, c.axes)
	}
	for _, r := range fullRings() {
		for i, a := range small {
			tensor := tensorWith(a, elemsFor(r, countOf(a.dims), i))
			for _, wrong := range withWrongData(r, tensor) {
				noSlices(t, r, wrong, tensor)
			}
		}
	}
	// As many integers, but elements of another width or too great ones.
	six := impl.Tensor{Labels: []int{4}, Dims: []int{3}, Data: []int{1, 2, 3, 4, 5, 6}}
	noSlices(t, polyRing(7, 3), six, impl.Tensor{Labels: []int{4}, Dims: []int{3}, Data: []int{1, 2, 3, 4, 5, 6, 1, 2, 3}})
	noSlices(t, polyRing(5, 2), six, impl.Tensor{Labels: []int{4}, Dims: []int{3}, Data: []int{1, 2, 3, 4, 0, 1}})
	noSlices(t, capRing(9), six, impl.Tensor{Labels: []int{4}, Dims: []int{3}, Data: []int{1, 2, 3}})
	// A wrong element that is not in the slice, and wrong axes that are not in it.
	r := boolRing()
	noSlice(t, r, line(3, 2, 1, 2), 3, 0)
	noSlice(t, r, line(3, 2, -1, 1), 3, 1)
	noSlice(t, r, line(3, 9, 1, 1, 1, 1, 1, 1, 1, 1, 1), 3, 0)
	noSlice(t, r, line(100, 2, 1, 1), 100, 0)
	noSlice(t, r, line(-1, 2, 1, 1), -1, 0)
	noSlice(t, r, square(3, 3, 1, 1, 1, 1), 3, 0)
	noFix(t, r, square(3, 3, 1, 1, 1, 1), []int{3, 3}, []int{0, 0})
	noSlice(t, r, sized(0, slices.Repeat([]int{1}, 13)...), 0, 0)
	noFix(t, r, sized(0, 8, 8, 8, 8, 2), []int{0}, []int{0})
	noSlice(t, r, impl.Tensor{}, 0, 0)
	noFix(t, r, impl.Tensor{}, nil, nil)
	noStack(t, r, []impl.Tensor{{}}, 0)
	noStack(t, r, []impl.Tensor{{}, {}}, 0)
}

// One tensor of a list that suits the others otherwise is not valid.
func TestNoStacksWithAWrongTensor(t *testing.T) {
	for _, r := range fullRings() {
		a := axes{[]int{2, 5}, []int{2, 3}}
		for n := 1; n <= 8; n++ {
			for k := range n {
				l := stackOf(r, a, n, a.labels, backward(a.labels))
				for _, wrong := range withWrongData(r, l[k]) {
					l[k] = wrong
					noStack(t, r, l, 9)
				}
			}
		}
	}
}

func TestNoSlicesOverInvalidRings(t *testing.T) {
	for _, r := range notRings {
		for _, c := range axesCases[:12] {
			for _, data := range [][]int{nil, make([]int, c.size), make([]int, 4*c.size), make([]int, max(0, min(r.N, 9))*c.size)} {
				tensor := impl.Tensor{Labels: c.labels, Dims: c.dims, Data: data}
				noSlices(t, r, tensor, tensor)
			}
		}
		noSlices(t, r, square(3, 5, 0, 0, 0, 0), square(5, 3, 0, 0, 0, 0))
		noStack(t, r, nil, 3)
	}
}

func TestStacksOfSlices(t *testing.T) {
	for _, r := range fullRings() {
		for i, c := range axesCases {
			tensor := tensorWith(c.axes, elemsFor(r, c.size, i))
			for k, label := range c.labels {
				if c.size > 300 && (i+k+r.Kind+r.N)%4 != 0 {
					// Every label comes over some of the rings.
					continue
				}
				var l []impl.Tensor
				for value := range c.dims[k] {
					l = append(l, sliced(t, r, tensor, label, value))
				}
				last := append(slices.Delete(slices.Clone(c.labels), k, k+1), label)
				sameTensor(t, "a stack of slices", stacked(t, r, l, label), permute(t, r, tensor, last))
			}
			if t.Failed() {
				t.Fatalf("over %v of %v", r, c.axes)
			}
		}
	}
}

func TestLawsOfSlices(t *testing.T) {
	t.Parallel()
	for _, r := range fullRings() {
		for i, c := range axesCases {
			if c.size > 1000 && (i+r.Kind+r.N)%4 != 0 {
				// All the axes come over some of the rings.
				continue
			}
			elems := elemsFor(r, c.size, i)
			a, b := tensorWith(c.axes, elems), tensorWith(c.axes, elemsFor(r, c.size, i+7))
			x := elemsFor(r, 4, i)[3]
			for k, label := range c.labels {
				value := (i + k) % c.dims[k]
				of := func(tensor impl.Tensor) impl.Tensor { return sliced(t, r, tensor, label, value) }
				rest := slices.Delete(slices.Clone(c.labels), k, k+1)
				for _, order := range someOrders(c.labels) {
					moved := slices.DeleteFunc(slices.Clone(order), func(l int) bool { return l == label })
					sameTensor(t, "a slice in another order", of(permute(t, r, a, order)), permute(t, r, of(a), moved))
				}
				sameTensor(t, "a slice of a sum", of(plusTensors(t, r, a, b)), plusTensors(t, r, of(a), of(b)))
				sameTensor(t, "a slice of products", of(timesTensors(t, r, a, b)), timesTensors(t, r, of(a), of(b)))
				sameTensor(t, "a slice of a scaled tensor", of(scaled(t, r, a, x)), scaled(t, r, of(a), x))
				sameTensor(t, "a slice with labels summed", summed(t, r, of(a), rest[:len(rest)/2]), of(summed(t, r, a, append(rest[:len(rest)/2:len(rest)/2], label))))
				renamed := relabel(t, r, a, []int{label}, []int{freeLabel})
				sameTensor(t, "a slice of a renamed tensor", sliced(t, r, renamed, freeLabel, value), of(a))
				// The sum of all slices is the sum over the label.
				sum, _ := impl.ZeroTensor(r, rest, of(a).Dims)
				for value := range c.dims[k] {
					sum = plusTensors(t, r, sum, sliced(t, r, a, label, value))
				}
				sameTensor(t, "a sum of slices", sum, summed(t, r, a, rest))
			}
			if t.Failed() {
				t.Fatalf("over %v of %v", r, c.axes)
			}
		}
	}
}

// A label that is kept may be fixed before a contraction or after it.
func TestSlicesOfPairs(t *testing.T) {
	for _, r := range fullRings() {
		for i, c := range somePairs {
			a := tensorWith(c[0], elemsFor(r, countOf(c[0].dims), i))
			b := tensorWith(c[1], elemsFor(r, countOf(c[1].dims), 3*i+1))
			join, _ := wantedJoin(c[0], c[1])
			for k, label := range join.labels {
				keep := slices.Concat([]int{label}, rotated(join.labels, k)[:len(join.labels)/2])
				labels, at := []int{label}, []int{i % join.dims[k]}
				got := pair(t, r, fixed(t, r, a, labels, at), fixed(t, r, b, labels, at), keep)
				sameTensor(t, "a pair of slices", got, sliced(t, r, pair(t, r, a, b, keep), label, at[0]))
			}
			if t.Failed() {
				t.Fatalf("over %v of %v and %v", r, c[0], c[1])
			}
		}
	}
}

func TestMapsKeepSlices(t *testing.T) {
	for k, c := range slices.Concat(smallHoms(), greatHoms()) {
		for i, a := range axesCases[:12] {
			if (i+k)%3 != 0 {
				continue
			}
			tensor := tensorWith(a.axes, elemsFor(c.from, a.size, i))
			image := mapped(t, c, tensor)
			for n, label := range a.labels {
				value := k % a.dims[n]
				sameTensor(t, "an image of a slice", mapped(t, c, sliced(t, c.from, tensor, label, value)), sliced(t, c.to, image, label, value))
			}
			l := stackOf(c.from, a.axes, 1+k%8, a.labels, backward(a.labels))
			var images []impl.Tensor
			for _, layer := range l {
				images = append(images, mapped(t, c, layer))
			}
			sameTensor(t, "an image of a stack", mapped(t, c, stacked(t, c.from, l, freeLabel)), stacked(t, c.to, images, freeLabel))
		}
		if t.Failed() {
			t.Fatalf("%v", c)
		}
	}
}

func TestSlicedTensorsStay(t *testing.T) {
	t.Parallel()
	for _, r := range fullRings() {
		for i, c := range axesCases {
			before := tensorWith(c.axes, elemsFor(r, c.size, i))
			tensor := spareTensor(before)
			none, noValues := withSpare([]int{freeLabel, -1, 100}, -9), withSpare([]int{-1, 0, 9}, -9)
			labels, at := withSpare(slices.Clone(c.labels), -9), withSpare(make([]int, len(c.labels)), -9)
			for range 2 {
				// What the results share with an argument changes here.
				got := fixed(t, r, tensor, nil, nil)
				sameTensor(t, "a tensor with nothing fixed", got, before)
				spoilTensor(got)
				got = fixed(t, r, tensor, none, noValues)
				sameTensor(t, "a tensor with no label of its own fixed", got, before)
				spoilTensor(got)
				for n := range labels {
					want, _ := wantedFix(r, before, c.labels[n:], at[n:])
					got = fixed(t, r, tensor, labels[n:], at[n:])
					sameTensor(t, "a tensor with labels fixed", got, want)
					spoilTensor(got)
					got = sliced(t, r, tensor, labels[n], 0)
					sameTensor(t, "a slice", got, wantedSlice(r, before, c.labels[n], 0))
					spoilTensor(got)
				}
			}
			stays(t, "a part of a tensor", tensor, before)
			sameList(t, "other labels", none[:6], []int{freeLabel, -1, 100, -9, -9, -9})
			sameList(t, "values of other labels", noValues[:6], []int{-1, 0, 9, -9, -9, -9})
			sameList(t, "the labels", labels[:len(labels)+3], append(slices.Clone(c.labels), -9, -9, -9))
			sameList(t, "the values", at[:len(at)+3], append(make([]int, len(c.labels)), -9, -9, -9))
			if t.Failed() {
				t.Fatalf("over %v of %v", r, c.axes)
			}
		}
	}
}

func TestStackedTensorsStay(t *testing.T) {
	for _, r := range fullRings() {
		for _, a := range []axes{{nil, nil}, {[]int{4}, []int{3}}, {[]int{4}, []int{1}}, {[]int{9, 0, 5}, []int{2, 3, 2}}, {[]int{1, 0, 2}, []int{1, 1, 1}}} {
			for n := 1; n <= 8; n++ {
				before := stackOf(r, a, n, a.labels, backward(a.labels))
				l := withSpare(make([]impl.Tensor, n), point(-9))
				for k := range l {
					l[k] = spareTensor(before[k])
				}
				for range 2 {
					// What the result shares with an argument changes here.
					got := stacked(t, r, l, 8)
					sameTensor(t, "a stack", got, wantedStack(r, before, 8))
					spoilTensor(got)
					noStack(t, r, l, 100)
				}
				for k := range l {
					stays(t, "a part of a tensor in a list", l[k], before[k])
				}
				for _, spare := range l[:n+3][n:] {
					sameTensor(t, "a tensor behind a list", spare, point(-9))
				}
			}
		}
	}
}

// Arguments may share memory with each other.
func TestSlicesOfArgumentsInCommonMemory(t *testing.T) {
	r := polyRing(7, 2)
	data, labels, dims := []int{1, 2, 3, 4, 5, 6}, []int{2}, []int{2}
	a := impl.Tensor{Labels: labels, Dims: dims, Data: data[:4]}
	b := impl.Tensor{Labels: labels, Dims: dims, Data: data[2:]}
	sameTensor(t, "a stack", stacked(t, r, []impl.Tensor{a, b, a}, 3), impl.Tensor{Labels: []int{2, 3}, Dims: []int{2, 3}, Data: []int{1, 2, 3, 4, 1, 2, 3, 4, 5, 6, 3, 4}})
	sameTensor(t, "a slice", sliced(t, r, a, 2, 1), point(3, 4))
	// Lists that stand for several things at once.
	l := []int{1, 2}
	c := impl.Tensor{Labels: l, Dims: l, Data: l}
	sameTensor(t, "a slice", fixed(t, modRing(7), c, l[1:], l[:1]), line(1, 1, 2))
	noFix(t, modRing(7), c, l, l)
	sameTensor(t, "a stack", stacked(t, modRing(7), []impl.Tensor{c, c}, 5), impl.Tensor{Labels: []int{1, 2, 5}, Dims: []int{1, 2, 2}, Data: []int{1, 1, 2, 2}})
	sameList(t, "the data", data, []int{1, 2, 3, 4, 5, 6})
	sameList(t, "the labels", labels, []int{2})
	sameList(t, "the dimensions", dims, []int{2})
	sameList(t, "the list", l, []int{1, 2})
}

func TestPartsOfSlicesAreApart(t *testing.T) {
	r := capRing(1)
	l := []int{1}
	tensor := impl.Tensor{Labels: l, Dims: l, Data: l}
	small := impl.Tensor{Labels: []int{0, 1}, Dims: []int{1, 1}, Data: l}
	stack := stacked(t, r, []impl.Tensor{{Data: l}}, 1)
	partsApart(t, l, sliced(t, r, small, 0, 0), fixed(t, r, tensor, nil, nil), fixed(t, r, tensor, []int{0}, l), fixed(t, r, small, []int{0}, []int{0}), stack)
}

func TestInvalidTensorsStayWithSlices(t *testing.T) {
	r := polyRing(7, 2)
	// The last one is valid, but the other arguments do not suit it.
	valid := impl.Tensor{Labels: []int{4, 3}, Dims: []int{2, 1}, Data: []int{1, 2, 3, 4}}
	for _, before := range append(slices.Clone(brokenTensors), valid) {
		otherBefore := impl.Tensor{Labels: []int{4, 3}, Dims: []int{1, 2}, Data: []int{1, 2, 3, 4}}
		tensor, other := spareTensor(before), spareTensor(otherBefore)
		labels, at := withSpare([]int{3, 4}, -9), withSpare([]int{0, 2}, -9)
		noSlice(t, r, tensor, 4, 2)
		noFix(t, r, tensor, labels, at)
		noStack(t, r, []impl.Tensor{tensor, other}, 7)
		noStack(t, r, []impl.Tensor{other, tensor}, 7)
		stays(t, "a part of a tensor", tensor, before)
		stays(t, "a part of the other tensor", other, otherBefore)
		sameList(t, "the labels", labels[:5], []int{3, 4, -9, -9, -9})
		sameList(t, "the values", at[:5], []int{0, 2, -9, -9, -9})
	}
}
