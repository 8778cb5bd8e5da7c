package tests

import (
	"math"
	"slices"
	"testing"

	"loop.example/g03211/impl"
)

// dimsIn takes the labels to be among those of the axes.
func dimsIn(a axes, labels []int) []int {
	dims := make([]int, len(labels))
	for k, label := range labels {
		dims[k] = a.dims[slices.Index(a.labels, label)]
	}
	return dims
}

func isAmong(list []int, all []int) bool {
	return !slices.ContainsFunc(list, func(n int) bool { return !slices.Contains(all, n) })
}

func isDistinct(list []int) bool {
	return len(slices.Compact(ascending(list))) == len(list)
}

// wantedFuse follows the text of chapter 11. It takes t to be valid and returns
// false if the other arguments are not.
func wantedFuse(r impl.Ring, t impl.Tensor, labels []int, into int) (impl.Tensor, bool) {
	if len(labels) == 0 || !isDistinct(labels) || !isAmong(labels, t.Labels) {
		return impl.Tensor{}, false
	}
	rest, _ := without(axesOf(t), labels)
	indices := indicesOf(dimsIn(axesOf(t), labels))
	result := axes{append(rest.labels, into), append(rest.dims, len(indices))}
	if wantedSize(result) < 0 {
		return impl.Tensor{}, false
	}
	var elems [][]int
	var own values
	elem := reader(r, t)
	eachValue(result, func(at *values) {
		index := indices[at[into]]
		own = *at
		for k, label := range labels {
			own[label] = index[k]
		}
		elems = append(elems, elem(&own))
	})
	return tensorWith(result, elems), true
}

// wantedSplit takes t to be valid as well. The element whose labels have the
// values of an index is where the fused label counts the indices before.
func wantedSplit(r impl.Ring, t impl.Tensor, label int, labels []int, dims []int) (impl.Tensor, bool) {
	if !slices.Contains(t.Labels, label) || len(labels) == 0 {
		return impl.Tensor{}, false
	}
	parts := axes{labels, dims}
	rest, old := without(axesOf(t), []int{label})
	result := axes{slices.Concat(rest.labels, labels), slices.Concat(rest.dims, dims)}
	if wantedSize(parts) != old.dims[0] || wantedSize(result) < 0 {
		return impl.Tensor{}, false
	}
	var elems [][]int
	var own values
	elem := reader(r, t)
	eachValue(result, func(at *values) {
		own = *at
		own[label] = placeIn(parts, at)
		elems = append(elems, elem(&own))
	})
	return tensorWith(result, elems), true
}

func wantedDelta(r impl.Ring, labels []int, d int) (impl.Tensor, bool) {
	a := axes{labels, slices.Repeat([]int{d}, len(labels))}
	if d < 1 || d > 8 || wantedSize(a) < 0 {
		return impl.Tensor{}, false
	}
	var elems [][]int
	for _, index := range indicesOf(a.dims) {
		if len(slices.Compact(index)) <= 1 {
			elems = append(elems, impl.OneOf(r))
		} else {
			elems = append(elems, impl.ZeroOf(r))
		}
	}
	return tensorWith(a, elems), true
}

func fused(t *testing.T, r impl.Ring, tensor impl.Tensor, labels []int, into int) impl.Tensor {
	t.Helper()
	got, ok := impl.FuseLabels(r, tensor, labels, into)
	if !ok || !impl.TensorOk(r, got) {
		t.Errorf("over %v FuseLabels of %v at %v into %d: %t, or no tensor", r, axesOf(tensor), labels, into, ok)
	}
	return got
}

func split(t *testing.T, r impl.Ring, tensor impl.Tensor, label int, labels []int, dims []int) impl.Tensor {
	t.Helper()
	got, ok := impl.SplitLabel(r, tensor, label, labels, dims)
	if !ok || !impl.TensorOk(r, got) {
		t.Errorf("over %v SplitLabel of %v at %d into %v with %v: %t, or no tensor", r, axesOf(tensor), label, labels, dims, ok)
	}
	return got
}

func delta(t *testing.T, r impl.Ring, labels []int, d int) impl.Tensor {
	t.Helper()
	got, ok := impl.DeltaTensor(r, labels, d)
	if !ok || !impl.TensorOk(r, got) {
		t.Errorf("over %v DeltaTensor of %v with %d: %t, or no tensor", r, labels, d, ok)
	}
	return got
}

func noFuse(t *testing.T, r impl.Ring, tensor impl.Tensor, labels []int, into int) {
	t.Helper()
	got, ok := impl.FuseLabels(r, tensor, labels, into)
	noTensor(t, "FuseLabels with wrong arguments", got)
	if ok {
		t.Errorf("over %v FuseLabels of %v at %v into %d gives true", r, axesOf(tensor), labels, into)
	}
}

func noSplit(t *testing.T, r impl.Ring, tensor impl.Tensor, label int, labels []int, dims []int) {
	t.Helper()
	got, ok := impl.SplitLabel(r, tensor, label, labels, dims)
	noTensor(t, "SplitLabel with wrong arguments", got)
	if ok {
		t.Errorf("over %v SplitLabel of %v at %d into %v with %v gives true", r, axesOf(tensor), label, labels, dims)
	}
}

func noDelta(t *testing.T, r impl.Ring, labels []int, d int) {
	t.Helper()
	got, ok := impl.DeltaTensor(r, labels, d)
	noTensor(t, "DeltaTensor with wrong arguments", got)
	if ok {
		t.Errorf("over %v DeltaTensor of %v with %d gives true", r, labels, d)
	}
}

// sameFuse compares whether FuseLabels succeeds or not, and splits what was
// fused again.
func sameFuse(t *testing.T, r impl.Ring, tensor impl.Tensor, labels []int, into int) {
	t.Helper()
	want, ok := wantedFuse(r, tensor, labels, into)
	if !ok {
		noFuse(t, r, tensor, labels, into)
		return
	}
	got := fused(t, r, tensor, labels, into)
	sameTensor(t, "a tensor with fused labels", got, want)
	rest, _ := without(axesOf(tensor), labels)
	back := split(t, r, got, into, labels, dimsIn(axesOf(tensor), labels))
	sameTensor(t, "a tensor with labels fused and split", back, permute(t, r, tensor, slices.Concat(rest.labels, labels)))
}

// sameSplit fuses what was split.
func sameSplit(t *testing.T, r impl.Ring, tensor impl.Tensor, label int, labels []int, dims []int) {
	t.Helper()
	want, ok := wantedSplit(r, tensor, label, labels, dims)
	if !ok {
		noSplit(t, r, tensor, label, labels, dims)
		return
	}
	got := split(t, r, tensor, label, labels, dims)
	sameTensor(t, "a tensor with a label split", got, want)
	rest, _ := without(axesOf(tensor), []int{label})
	back := fused(t, r, got, labels, label)
	sameTensor(t, "a tensor with a label split and fused", back, permute(t, r, tensor, append(rest.labels, label)))
}

func sameDelta(t *testing.T, r impl.Ring, labels []int, d int) {
	t.Helper()
	want, ok := wantedDelta(r, labels, d)
	if !ok {
		noDelta(t, r, labels, d)
		return
	}
	sameTensor(t, "a delta tensor", delta(t, r, labels, d), want)
}

func TestFuseLabels(t *testing.T) {
	r := modRing(1000003)
	cubic := cube(4, 1, 7, 0, 1, 2, 3, 4, 5, 6, 7)
	flat := impl.Tensor{Labels: []int{9, 0, 5}, Dims: []int{1, 2, 1}, Data: []int{3, 4}}
	for _, c := range []struct {
		r      impl.Ring
		t      impl.Tensor
		labels []int
		into   int
		want   impl.Tensor
	}{
		// One label: the first, the middle and the last one.
		{r, box(), []int{4}, 9, impl.Tensor{Labels: []int{1, 7, 9}, Dims: []int{3, 2, 2}, Data: []int{0, 6, 1, 7, 2, 8, 3, 9, 4, 10, 5, 11}}},
		{r, box(), []int{1}, 9, impl.Tensor{Labels: []int{4, 7, 9}, Dims: []int{2, 2, 3}, Data: []int{0, 2, 4, 1, 3, 5, 6, 8, 10, 7, 9, 11}}},
		{r, box(), []int{7}, 9, impl.Tensor{Labels: []int{4, 1, 9}, Dims: []int{2, 3, 2}, Data: box().Data}},
		{r, box(), []int{7}, 7, box()},
		// Two labels next to each other, in both orders.
		{r, box(), []int{4, 1}, 9, impl.Tensor{Labels: []int{7, 9}, Dims: []int{2, 6}, Data: []int{0, 2, 4, 6, 8, 10, 1, 3, 5, 7, 9, 11}}},
		{r, box(), []int{1, 4}, 9, impl.Tensor{Labels: []int{7, 9}, Dims: []int{2, 6}, Data: []int{0, 6, 2, 8, 4, 10, 1, 7, 3, 9, 5, 11}}},
		{r, box(), []int{1, 7}, 9, impl.Tensor{Labels: []int{4, 9}, Dims: []int{2, 6}, Data: box().Data}},
		{r, box(), []int{7, 1}, 9, impl.Tensor{Labels: []int{4, 9}, Dims: []int{2, 6}, Data: []int{0, 2, 4, 1, 3, 5, 6, 8, 10, 7, 9, 11}}},
		// And apart.
		{r, box(), []int{4, 7}, 9, impl.Tensor{Labels: []int{1, 9}, Dims: []int{3, 4}, Data: []int{0, 1, 6, 7, 2, 3, 8, 9, 4, 5, 10, 11}}},
		{r, box(), []int{7, 4}, 9, impl.Tensor{Labels: []int{1, 9}, Dims: []int{3, 4}, Data: []int{0, 6, 1, 7, 2, 8, 3, 9, 4, 10, 5, 11}}},
		// All of them, into a new label and into one of them.
		{r, cubic, []int{4, 1, 7}, 9, line(9, 8, 0, 1, 2, 3, 4, 5, 6, 7)},
		{r, cubic, []int{7, 1, 4}, 0, line(0, 8, 0, 4, 2, 6, 1, 5, 3, 7)},
		{r, cubic, []int{1, 7, 4}, 99, line(99, 8, 0, 4, 1, 5, 2, 6, 3, 7)},
		{r, cubic, []int{4, 7, 1}, 4, line(4, 8, 0, 2, 1, 3, 4, 6, 5, 7)},
		{r, cubic, []int{4, 7, 1}, 7, line(7, 8, 0, 2, 1, 3, 4, 6, 5, 7)},
		{r, cubic, []int{4, 7, 1}, 1, line(1, 8, 0, 2, 1, 3, 4, 6, 5, 7)},
		{r, cubic, []int{7, 4}, 7, impl.Tensor{Labels: []int{1, 7}, Dims: []int{2, 4}, Data: []int{0, 4, 1, 5, 2, 6, 3, 7}}},
		{r, cubic, []int{7, 4}, 4, impl.Tensor{Labels: []int{1, 4}, Dims: []int{2, 4}, Data: []int{0, 4, 1, 5, 2, 6, 3, 7}}},
		// One axis, and axes of dimension 1.
		{r, line(3, 3, 5, 6, 8), []int{3}, 3, line(3, 3, 5, 6, 8)},
		{r, line(3, 3, 5, 6, 8), []int{3}, 0, line(0, 3, 5, 6, 8)},
		{r, line(0, 1, 5), []int{0}, 99, line(99, 1, 5)},
		{r, line(99, 8, 0, 1, 2, 3, 4, 5, 6, 7), []int{99}, 98, line(98, 8, 0, 1, 2, 3, 4, 5, 6, 7)},
		{r, flat, []int{9, 0}, 1, impl.Tensor{Labels: []int{5, 1}, Dims: []int{1, 2}, Data: []int{3, 4}}},
		{r, flat, []int{5, 9}, 1, impl.Tensor{Labels: []int{0, 1}, Dims: []int{2, 1}, Data: []int{3, 4}}},
		{r, flat, []int{0}, 9 - 1, impl.Tensor{Labels: []int{9, 5, 8}, Dims: []int{1, 1, 2}, Data: []int{3, 4}}},
		{r, flat, []int{5, 0, 9}, 5, line(5, 2, 3, 4)},
		// The other rings.
		{boolRing(), square(3, 5, 1, 0, 0, 1), []int{5, 3}, 8, line(8, 4, 1, 0, 0, 1)},
		{capRing(9), square(3, 5, 2, 6, 7, 9), []int{5, 3}, 8, line(8, 4, 2, 7, 6, 9)},
		{minRing(9), square(3, 5, 2, 6, 7, 9), []int{3}, 8, square(5, 8, 2, 7, 6, 9)},
		{wideRing(9), square(3, 5, 2, 6, 7, 9), []int{3, 5}, 8, line(8, 4, 2, 6, 7, 9)},
		{setRing(4), square(3, 5, 2, 6, 15, 9), []int{5, 3}, 5, line(5, 4, 2, 15, 6, 9)},
		{polyRing(7, 2), square(3, 5, 1, 2, 3, 4, 5, 6, 0, 1), []int{5, 3}, 8, line(8, 4, 1, 2, 5, 6, 3, 4, 0, 1)},
		{polyRing(7, 2), square(3, 5, 1, 2, 3, 4, 5, 6, 0, 1), []int{3}, 3, square(5, 3, 1, 2, 5, 6, 3, 4, 0, 1)},
		{polyRing(7, 3), line(3, 2, 1, 2, 3, 4, 5, 6), []int{3}, 0, line(0, 2, 1, 2, 3, 4, 5, 6)},
		{omegaRing(17), line(3, 2, 1, 2, 3, 4, 16, 0, 14, 13), []int{3}, 0, line(0, 2, 1, 2, 3, 4, 16, 0, 14, 13)},
	} {
		sameTensor(t, "a tensor with fused labels", fused(t, c.r, c.t, c.labels, c.into), c.want)
		if want, ok := wantedFuse(c.r, c.t, c.labels, c.into); ok {
			sameTensor(t, "what the tests expect", want, c.want)
		} else {
			t.Errorf("the tests expect nothing of %v fused at %v into %d", axesOf(c.t), c.labels, c.into)
		}
	}
}

func TestNoFuses(t *testing.T) {
	r := modRing(1000003)
	for _, labels := range [][]int{
		nil, {}, {4, 4}, {7, 7}, {4, 1, 4}, {1, 7, 7}, {4, 1, 7, 1}, {0}, {4, 0}, {0, 4}, {4, 1, 9}, {-1}, {100}, {4, -1}, {100, 7},
		{4 + 1<<32}, {4, 1 + 1<<32}, {math.MinInt}, {4, math.MaxInt}, {8, 8},
	} {
		for _, into := range []int{9, 0, 4, 1, 7, 99} {
			noFuse(t, r, box(), labels, into)
			noFuse(t, r, point(5), labels, into)
			noFuse(t, r, impl.Tensor{Labels: []int{4, 1, 7}, Dims: []int{1, 1, 1}, Data: []int{6}}, labels, into)
		}
	}
	// Another axis has the name, or it is no label.
	noFuse(t, r, box(), []int{4, 1}, 7)
	noFuse(t, r, box(), []int{1, 7}, 4)
	noFuse(t, r, box(), []int{4, 7}, 1)
	noFuse(t, r, box(), []int{4}, 7)
	noFuse(t, r, box(), []int{7}, 4)
	for _, into := range []int{-1, 100, 101, -4, 9 + 1<<32, -1 << 32, math.MinInt, math.MaxInt} {
		noFuse(t, r, box(), []int{4, 1}, into)
		noFuse(t, r, box(), []int{7}, into)
		noFuse(t, r, line(3, 2, 5, 6), []int{3}, into)
		noFuse(t, r, cube(4, 1, 7, 0, 1, 2, 3, 4, 5, 6, 7), []int{4, 1, 7}, into)
	}
	// The fused axis is too long.
	noFuse(t, r, box(), []int{4, 1, 7}, 9)
	noFuse(t, r, box(), []int{7, 1, 4}, 4)
}

func TestEveryNameOfAFusedAxis(t *testing.T) {
	r := polyRing(7, 2)
	tensor := tensorWith(axes{[]int{4, 1, 98, 50}, []int{2, 3, 1, 2}}, elemsFor(r, 12, 1))
	for into := -300; into <= 300; into++ {
		for _, labels := range [][]int{{4}, {98}, {50, 1}, {4, 98, 1}, {98, 4, 50}} {
			sameFuse(t, r, tensor, labels, into)
		}
	}
}

// All dimensions of up to three axes that are fused beside one that is not.
func TestEveryDimensionOfAFusedAxis(t *testing.T) {
	r := modRing(1000003)
	for _, dims := range listsOf(3, 1, 2, 3, 4, 5, 6, 7, 8) {
		tensor := impl.Tensor{Labels: append([]int{40}, labelsFrom(1, len(dims))...), Dims: append([]int{2}, dims...)}
		for n := range 2 * countOf(dims) {
			tensor.Data = append(tensor.Data, n)
		}
		labels := tensor.Labels[1:]
		if len(dims) == 0 || countOf(dims) > 8 {
			noFuse(t, r, tensor, labels, 60)
			noFuse(t, r, tensor, backward(labels), labelsFrom(1, 3)[0])
			continue
		}
		sameFuse(t, r, tensor, labels, 60)
		sameFuse(t, r, tensor, backward(labels), labels[0])
	}
	// Exactly MaxDim and beyond it, with many axes.
	for _, c := range []struct {
		dims []int
		ok   bool
	}{
		{[]int{8, 1, 1, 1, 1, 1, 1, 1, 1, 1, 1, 1}, true},
		{[]int{2, 1, 1, 2, 1, 1, 2, 1, 1, 1, 1, 1}, true},
		{[]int{1, 1, 1, 1, 1, 1, 1, 1, 1, 1, 1, 1}, true},
		{[]int{3, 1, 1, 1, 1, 1, 1, 1, 1, 1, 1, 3}, false},
		{[]int{1, 2, 1, 2, 1, 2, 1, 2, 1, 1, 1, 1}, false},
		{[]int{8, 1, 1, 1, 1, 1, 1, 1, 1, 1, 1, 2}, false},
		{[]int{2, 2, 2, 2, 2, 2, 2, 2, 2, 2, 2, 2}, false},
		{[]int{8, 8, 8, 8}, false},
		{[]int{2, 5}, false},
		{[]int{3, 3}, false},
		{[]int{7, 1}, true},
		{[]int{2, 4}, true},
	} {
		a := axes{labelsFrom(3, len(c.dims)), c.dims}
		tensor := tensorWith(a, elemsFor(r, countOf(c.dims), 1))
		for _, order := range someOrders(a.labels) {
			for _, into := range []int{order[0], a.labels[0], freeLabel + 1} {
				if !c.ok {
					noFuse(t, r, tensor, order, into)
					continue
				}
				sameTensor(t, "a tensor with all labels fused", fused(t, r, tensor, order, into), impl.Tensor{Labels: []int{into}, Dims: []int{countOf(c.dims)}, Data: permute(t, r, tensor, order).Data})
			}
		}
	}
}

// someFused returns lists of labels of these axes; where there are few of them,
// some have a label twice.
func someFused(a axes) [][]int {
	lists := [][]int{a.labels, backward(a.labels), rotated(a.labels, 1)}
	for i, label := range a.labels {
		next := a.labels[(i+1)%len(a.labels)]
		far := a.labels[(i+len(a.labels)/2)%len(a.labels)]
		lists = append(lists, []int{label}, []int{label, next}, []int{next, label}, []int{label, far}, []int{far, next, label}, []int{label, far, next})
		lists = append(lists, a.labels[:i], a.labels[i:], backward(a.labels[i:]), slices.Delete(slices.Clone(a.labels), i, i+1))
	}
	return lists
}

func TestFuseManyTensors(t *testing.T) {
	t.Parallel()
	for j, r := range fullRings() {
		for i, c := range axesCases {
			tensor := tensorWith(c.axes, elemsFor(r, c.size, i))
			for k, labels := range someFused(c.axes) {
				if c.size > 300 && (k+j)%14 != 0 {
					// Every list comes over one of the rings.
					continue
				}
				sameFuse(t, r, tensor, labels, freeLabel)
				noFuse(t, r, tensor, labels, []int{-1, 100, 100 + freeLabel, math.MaxInt}[k%4])
				noFuse(t, r, tensor, append(slices.Clone(labels), freeLabel), freeLabel)
				if len(labels) > 0 {
					sameFuse(t, r, tensor, labels, labels[k%len(labels)])
					sameFuse(t, r, tensor, labels, c.labels[k%len(c.labels)])
					noFuse(t, r, tensor, append(slices.Clone(labels), labels[k%len(labels)]), freeLabel)
					noFuse(t, r, tensor, append([]int{labels[len(labels)-1]}, labels...), freeLabel)
				}
			}
			noFuse(t, r, tensor, nil, freeLabel)
			if len(c.labels) > 0 {
				noFuse(t, r, tensor, nil, c.labels[0])
			}
			for k, other := range notLabels(freeLabel + 1) {
				if c.size < 300 || (k+j)%7 == 0 {
					noFuse(t, r, tensor, []int{other}, freeLabel)
					noFuse(t, r, tensor, append([]int{other}, c.labels...), freeLabel)
				}
			}
			if t.Failed() {
				t.Fatalf("over %v of %v", r, c.axes)
			}
		}
	}
}

// All the lists of labels that can be fused, at all places of four axes.
func TestFusesAtEveryPlace(t *testing.T) {
	t.Parallel()
	all := []int{8, 3, 99, 0}
	for _, r := range []impl.Ring{modRing(1000003), polyRing(7, 2)} {
		for _, dims := range listsOf(4, 1, 2, 3) {
			tensor := tensorWith(axes{all[:len(dims)], dims}, elemsFor(r, countOf(dims), 1))
			for n, chosen := range subsets(tensor.Labels) {
				for k, labels := range allOrders(chosen) {
					sameFuse(t, r, tensor, labels, 7)
					sameFuse(t, r, tensor, labels, all[(n+k)%4])
				}
			}
			if t.Failed() {
				t.Fatalf("over %v with %v", r, dims)
			}
		}
	}
}

// Values that no two elements share show where each one comes from.
func TestFusesKeepTheirIndices(t *testing.T) {
	t.Parallel()
	r := modRing(1000003)
	for _, c := range axesCases {
		tensor := c.tensor()
		for n := range c.size {
			tensor.Data = append(tensor.Data, n)
		}
		for k, labels := range someFused(c.axes) {
			if c.size > 300 && k%3 != 0 || len(labels) == 0 || !isDistinct(labels) || countOf(dimsIn(c.axes, labels)) > 8 {
				continue
			}
			got := fused(t, r, tensor, labels, freeLabel)
			for n, index := range indicesOf(got.Dims) {
				// The fused value is the number of indices before that of the parts.
				old, rest := make([]int, len(c.labels)), index[len(index)-1]
				for _, label := range slices.Backward(labels) {
					axis := slices.Index(c.labels, label)
					old[axis] = rest % c.dims[axis]
					rest /= c.dims[axis]
				}
				for axis, label := range c.labels {
					if place := slices.Index(got.Labels, label); place >= 0 {
						old[axis] = index[place]
					}
				}
				if want := impl.OffsetOf(tensor, old); got.Data[n] != want {
					t.Fatalf("%v at %v: %d at %v, not %d", c.axes, labels, got.Data[n], index, want)
				}
			}
		}
	}
}

func TestEveryListThatIsFused(t *testing.T) {
	r := modRing(1000003)
	for _, a := range []axes{{nil, nil}, {[]int{2}, []int{3}}, {[]int{3, 0}, []int{2, 3}}, {[]int{2, 0, 3}, []int{2, 3, 1}}, {[]int{2, 0, 3}, []int{2, 2, 2}}, {[]int{3, 2, 0}, []int{1, 1, 1}}} {
		tensor := tensorWith(a, elemsFor(r, countOf(a.dims), 1))
		for _, labels := range listsOf(4, -1, 0, 2, 3, 100) {
			for _, into := range []int{-1, 0, 2, 3, 5, 100} {
				sameFuse(t, r, tensor, labels, into)
			}
		}
	}
}

func TestSplitLabel(t *testing.T) {
	r := modRing(1000003)
	six := line(3, 6, 10, 11, 12, 13, 14, 15)
	eight := line(3, 8, 0, 1, 2, 3, 4, 5, 6, 7)
	wide := impl.Tensor{Labels: []int{4, 1, 7}, Dims: []int{2, 4, 2}, Data: []int{0, 1, 2, 3, 4, 5, 6, 7, 8, 9, 10, 11, 12, 13, 14, 15}}
	long := impl.Tensor{Labels: []int{4, 1}, Dims: []int{4, 2}, Data: []int{0, 1, 2, 3, 4, 5, 6, 7}}
	for _, c := range []struct {
		r      impl.Ring
		t      impl.Tensor
		label  int
		labels []int
		dims   []int
		want   impl.Tensor
	}{
		// One axis into two, three and one.
		{r, six, 3, []int{8, 9}, []int{2, 3}, impl.Tensor{Labels: []int{8, 9}, Dims: []int{2, 3}, Data: six.Data}},
		{r, six, 3, []int{9, 8}, []int{3, 2}, impl.Tensor{Labels: []int{9, 8}, Dims: []int{3, 2}, Data: six.Data}},
		{r, six, 3, []int{9}, []int{6}, line(9, 6, six.Data...)},
		{r, six, 3, []int{3}, []int{6}, six},
		{r, six, 3, []int{3, 9}, []int{2, 3}, impl.Tensor{Labels: []int{3, 9}, Dims: []int{2, 3}, Data: six.Data}},
		{r, six, 3, []int{9, 3}, []int{2, 3}, impl.Tensor{Labels: []int{9, 3}, Dims: []int{2, 3}, Data: six.Data}},
		{r, six, 3, []int{9, 3, 0}, []int{1, 6, 1}, impl.Tensor{Labels: []int{9, 3, 0}, Dims: []int{1, 6, 1}, Data: six.Data}},
		{r, eight, 3, []int{0, 1, 2}, []int{2, 2, 2}, cube(0, 1, 2, eight.Data...)},
		{r, eight, 3, []int{0, 3, 2}, []int{2, 2, 2}, cube(0, 3, 2, eight.Data...)},
		{r, eight, 3, []int{5, 0}, []int{1, 8}, impl.Tensor{Labels: []int{5, 0}, Dims: []int{1, 8}, Data: eight.Data}},
		{r, eight, 3, []int{5, 0}, []int{8, 1}, impl.Tensor{Labels: []int{5, 0}, Dims: []int{8, 1}, Data: eight.Data}},
		{r, line(0, 1, 5), 0, []int{99}, []int{1}, line(99, 1, 5)},
		{r, line(0, 1, 5), 0, []int{99, 0, 1}, []int{1, 1, 1}, impl.Tensor{Labels: []int{99, 0, 1}, Dims: []int{1, 1, 1}, Data: []int{5}}},
		// The first, a middle and the last axis.
		{r, long, 4, []int{8, 9}, []int{2, 2}, cube(1, 8, 9, 0, 2, 4, 6, 1, 3, 5, 7)},
		{r, long, 4, []int{9, 4}, []int{2, 2}, cube(1, 9, 4, 0, 2, 4, 6, 1, 3, 5, 7)},
		{r, long, 1, []int{9}, []int{2}, impl.Tensor{Labels: []int{4, 9}, Dims: []int{4, 2}, Data: long.Data}},
		{r, long, 1, []int{8, 9}, []int{1, 2}, impl.Tensor{Labels: []int{4, 8, 9}, Dims: []int{4, 1, 2}, Data: long.Data}},
		{r, wide, 1, []int{8, 9}, []int{2, 2}, impl.Tensor{Labels: []int{4, 7, 8, 9}, Dims: []int{2, 2, 2, 2}, Data: []int{0, 2, 4, 6, 1, 3, 5, 7, 8, 10, 12, 14, 9, 11, 13, 15}}},
		{r, wide, 1, []int{1}, []int{4}, impl.Tensor{Labels: []int{4, 7, 1}, Dims: []int{2, 2, 4}, Data: []int{0, 2, 4, 6, 1, 3, 5, 7, 8, 10, 12, 14, 9, 11, 13, 15}}},
		{r, wide, 4, []int{4}, []int{2}, impl.Tensor{Labels: []int{1, 7, 4}, Dims: []int{4, 2, 2}, Data: []int{0, 8, 1, 9, 2, 10, 3, 11, 4, 12, 5, 13, 6, 14, 7, 15}}},
		{r, wide, 7, []int{0, 7}, []int{2, 1}, impl.Tensor{Labels: []int{4, 1, 0, 7}, Dims: []int{2, 4, 2, 1}, Data: wide.Data}},
		// The other rings.
		{boolRing(), line(5, 4, 1, 0, 0, 1), 5, []int{1, 0}, []int{2, 2}, square(1, 0, 1, 0, 0, 1)},
		{capRing(9), line(5, 4, 1, 9, 0, 1), 5, []int{1, 0}, []int{2, 2}, square(1, 0, 1, 9, 0, 1)},
		{minRing(9), square(5, 3, 1, 9, 0, 7), 5, []int{0}, []int{2}, square(3, 0, 1, 0, 9, 7)},
		{wideRing(9), line(5, 4, 1, 9, 0, 1), 5, []int{5, 0}, []int{2, 2}, square(5, 0, 1, 9, 0, 1)},
		{setRing(4), line(5, 4, 1, 15, 0, 8), 5, []int{1, 5}, []int{2, 2}, square(1, 5, 1, 15, 0, 8)},
		{polyRing(7, 2), line(5, 4, 1, 2, 3, 4, 5, 6, 0, 1), 5, []int{1, 0}, []int{2, 2}, square(1, 0, 1, 2, 3, 4, 5, 6, 0, 1)},
		{polyRing(7, 2), square(5, 3, 1, 2, 3, 4, 5, 6, 0, 1), 5, []int{0}, []int{2}, square(3, 0, 1, 2, 5, 6, 3, 4, 0, 1)},
		{polyRing(7, 3), line(3, 2, 1, 2, 3, 4, 5, 6), 3, []int{0}, []int{2}, line(0, 2, 1, 2, 3, 4, 5, 6)},
		{omegaRing(17), line(3, 2, 1, 2, 3, 4, 16, 0, 14, 13), 3, []int{0}, []int{2}, line(0, 2, 1, 2, 3, 4, 16, 0, 14, 13)},
	} {
		sameTensor(t, "a tensor with a label split", split(t, c.r, c.t, c.label, c.labels, c.dims), c.want)
		if want, ok := wantedSplit(c.r, c.t, c.label, c.labels, c.dims); ok {
			sameTensor(t, "what the tests expect", want, c.want)
		} else {
			t.Errorf("the tests expect nothing of %v split at %d into %v with %v", axesOf(c.t), c.label, c.labels, c.dims)
		}
	}
}

func TestNoSplits(t *testing.T) {
	r := modRing(1000003)
	eight := line(3, 8, 0, 1, 2, 3, 4, 5, 6, 7)
	// These are not dimensions whose product is that of the axis.
	for _, dims := range [][]int{
		{1, 1}, {2, 2}, {8, 8}, {7, 1}, {1, 9}, {9, 1}, {3, 3}, {2, 3}, {4, 4}, {8, 2}, {0, 8}, {8, 0}, {-2, -4}, {-1, -8}, {-8, 1}, {1, -8}, {16, 0}, {0, 0},
		{1 << 32, 1 << 32}, {math.MinInt, 2}, {math.MinInt, math.MinInt}, {math.MaxInt, 1}, {1 << 61, 8}, {8 + 1<<32, 1}, {1, 8 + 1<<32}, {3, 1<<62 + 1<<61}, {4},
		{8}, nil, {}, {2, 4, 1}, {2, 2, 2}, {8, 1, 1},
	} {
		noSplit(t, r, eight, 3, []int{8, 9}, dims)
		noSplit(t, r, eight, 3, []int{3, 9}, dims)
	}
	for _, d := range []int{1, 2, 4, 7, 9, 16, 0, -8, 8 + 1<<32, math.MinInt, math.MaxInt} {
		noSplit(t, r, eight, 3, []int{9}, []int{d})
		noSplit(t, r, eight, 3, []int{3}, []int{d})
	}
	// Lists of different lengths.
	noSplit(t, r, eight, 3, []int{9}, []int{2, 4})
	noSplit(t, r, eight, 3, []int{9}, []int{8, 1})
	noSplit(t, r, eight, 3, []int{9}, nil)
	noSplit(t, r, eight, 3, []int{8, 9, 10}, []int{2, 4})
	noSplit(t, r, eight, 3, []int{8, 9}, []int{8})
	noSplit(t, r, line(3, 1, 5), 3, []int{9}, nil)
	noSplit(t, r, line(3, 1, 5), 3, []int{9}, []int{1, 1})
	noSplit(t, r, line(3, 1, 5), 3, []int{8, 9}, []int{1})
	// No labels, also where the empty product is that of the axis.
	for _, tensor := range []impl.Tensor{eight, line(3, 1, 5), {Labels: []int{4, 3}, Dims: []int{2, 1}, Data: []int{5, 6}}} {
		for _, dims := range [][]int{nil, {}, {1}, {8}, {0}} {
			noSplit(t, r, tensor, 3, nil, dims)
			noSplit(t, r, tensor, 3, []int{}, dims)
		}
	}
	// Labels that are not in the tensor cannot be split.
	for _, label := range []int{0, 2, 5, 8, 9, 99, 100, -1, -4, 4 + 1<<32, math.MinInt, math.MaxInt} {
		noSplit(t, r, box(), label, []int{9}, []int{2})
		noSplit(t, r, box(), label, []int{label}, []int{2})
		noSplit(t, r, box(), label, []int{8, 9}, []int{1, 2})
		noSplit(t, r, box(), label, nil, nil)
		noSplit(t, r, point(5), label, []int{9}, []int{1})
		noSplit(t, r, point(5), label, []int{label}, []int{1})
	}
	// Labels that are there already, twice or no labels.
	wide := impl.Tensor{Labels: []int{4, 1, 7}, Dims: []int{1, 4, 1}, Data: []int{0, 1, 2, 3}}
	for _, labels := range [][]int{
		{4, 9}, {9, 4}, {7, 9}, {9, 7}, {4, 7}, {1, 4}, {7, 1}, {9, 9}, {1, 1}, {4, 4}, {-1, 9}, {9, -1}, {100, 9}, {9, 100}, {1, 100}, {-1, 1}, {9 + 1<<32, 9}, {math.MinInt, 9}, {9, math.MaxInt},
	} {
		for _, dims := range [][]int{{2, 2}, {1, 4}, {4, 1}} {
			noSplit(t, r, wide, 1, labels, dims)
		}
	}
	for _, label := range []int{4, 7, -1, 100, 101, 1 + 1<<32, -1 << 32, math.MinInt, math.MaxInt} {
		noSplit(t, r, wide, 1, []int{label}, []int{4})
	}
}

// someDims returns the lists of up to n dimensions with this product.
func someDims(product int, n int) [][]int {
	var lists [][]int
	for _, dims := range listsOf(n, 1, 2, 3, 4, 5, 6, 7, 8) {
		if len(dims) > 0 && countOf(dims) == product {
			lists = append(lists, dims)
		}
	}
	return lists
}

func TestSplitManyTensors(t *testing.T) {
	t.Parallel()
	for j, r := range fullRings() {
		for i, c := range axesCases {
			tensor := tensorWith(c.axes, elemsFor(r, c.size, i))
			for k, label := range c.labels {
				d := c.dims[k]
				if c.size > 300 && (k+j)%7 != 0 {
					// Every label comes over some of the rings.
					continue
				}
				for n, dims := range someDims(d, 3) {
					if c.size > 300 && n%3 != i%3 {
						continue
					}
					labels := []int{freeLabel, freeLabel + 1, freeLabel + 2}[:len(dims)]
					sameSplit(t, r, tensor, label, labels, dims)
					labels[(n+i)%len(labels)] = label
					sameSplit(t, r, tensor, label, labels, dims)
					noSplit(t, r, tensor, freeLabel, labels, dims)
					noSplit(t, r, tensor, label, labels[1:], dims)
					noSplit(t, r, tensor, label, labels, dims[1:])
					noSplit(t, r, tensor, label, append(labels, freeLabel-1), dims)
					noSplit(t, r, tensor, label, labels, append(dims, 1))
					if other := c.labels[(k+1)%len(c.labels)]; other != label {
						labels[n%len(labels)] = other
						noSplit(t, r, tensor, label, labels, dims)
					}
				}
				for _, wrong := range []int{0, -1, d - 1, d + 1, 9, 2 * d, -d, d + 1<<32, math.MinInt, math.MaxInt} {
					noSplit(t, r, tensor, label, []int{freeLabel}, []int{wrong})
					noSplit(t, r, tensor, label, []int{label, freeLabel}, []int{wrong, 1})
					noSplit(t, r, tensor, label, []int{freeLabel, label}, []int{1, wrong})
				}
				for _, other := range notLabels(label) {
					noSplit(t, r, tensor, other, []int{freeLabel + 1}, []int{d})
				}
				noSplit(t, r, tensor, label, nil, nil)
			}
			noSplit(t, r, tensor, freeLabel, []int{freeLabel}, []int{1})
			if t.Failed() {
				t.Fatalf("over %v of %v", r, c.axes)
			}
		}
	}
}

// All the places and dimensions that an axis of three can have, split in all
// ways.
func TestSplitsAtEveryPlace(t *testing.T) {
	t.Parallel()
	labels := []int{8, 3, 99}
	for _, r := range []impl.Ring{modRing(1000003), polyRing(7, 2)} {
		for _, dims := range listsOf(3, 1, 2, 4, 6) {
			tensor := tensorWith(axes{labels[:len(dims)], dims}, elemsFor(r, countOf(dims), 1))
			for k, d := range dims {
				for _, parts := range someDims(d, 3) {
					sameSplit(t, r, tensor, labels[k], []int{50, 7, 0}[:len(parts)], parts)
					sameSplit(t, r, tensor, labels[k], []int{labels[k], 70, 20}[:len(parts)], parts)
				}
			}
			if t.Failed() {
				t.Fatalf("over %v with %v", r, dims)
			}
		}
	}
}

// Values that no two elements share show where each one comes from.
func TestSplitsKeepTheirIndices(t *testing.T) {
	t.Parallel()
	r := modRing(1000003)
	for _, c := range axesCases {
		tensor := c.tensor()
		for n := range c.size {
			tensor.Data = append(tensor.Data, n)
		}
		for k, label := range c.labels {
			for n, dims := range someDims(c.dims[k], 2) {
				if len(c.labels)+len(dims) > 13 || c.size > 300 && (k+n)%3 != 0 {
					continue
				}
				got := split(t, r, tensor, label, []int{freeLabel, label}[:len(dims)], dims)
				sameList(t, "the dimensions after a split", got.Dims, append(slices.Delete(slices.Clone(c.dims), k, k+1), dims...))
				for n, index := range indicesOf(got.Dims) {
					value := index[len(c.labels)-1]
					if len(dims) == 2 {
						value = value*dims[1] + index[len(c.labels)]
					}
					want := impl.OffsetOf(tensor, slices.Insert(slices.Clone(index[:len(c.labels)-1]), k, value))
					if got.Data[n] != want {
						t.Fatalf("%v split at %d: %d at %v, not %d", c.axes, label, got.Data[n], index, want)
					}
				}
			}
		}
	}
}

func TestEveryListAfterASplit(t *testing.T) {
	t.Parallel()
	r := polyRing(7, 2)
	for _, a := range []axes{{nil, nil}, {[]int{2}, []int{4}}, {[]int{2}, []int{1}}, {[]int{3, 2}, []int{2, 6}}, {[]int{2, 0}, []int{2, 3}}, {[]int{0, 2, 3}, []int{1, 4, 1}}} {
		tensor := tensorWith(a, elemsFor(r, countOf(a.dims), 1))
		for _, labels := range listsOf(3, -1, 0, 2, 3, 100) {
			for _, dims := range listsOf(3, -2, 0, 1, 2, 4) {
				if len(labels)-len(dims) < 2 && len(dims)-len(labels) < 2 {
					sameSplit(t, r, tensor, 2, labels, dims)
				}
			}
			sameSplit(t, r, tensor, 0, labels, slices.Repeat([]int{1}, len(labels)))
		}
	}
}

func TestEveryLabelAfterASplit(t *testing.T) {
	r := polyRing(7, 2)
	tensor := tensorWith(axes{[]int{4, 1, 98}, []int{2, 6, 1}}, elemsFor(r, 12, 1))
	for label := -300; label <= 300; label++ {
		sameSplit(t, r, tensor, 1, []int{label}, []int{6})
		sameSplit(t, r, tensor, 1, []int{label, 5}, []int{2, 3})
		sameSplit(t, r, tensor, 1, []int{5, label, 1}, []int{3, 1, 2})
		sameSplit(t, r, tensor, label, []int{5}, []int{2})
		sameSplit(t, r, tensor, label, []int{label}, []int{6})
		sameSplit(t, r, tensor, 98, []int{label, label}, []int{1, 1})
	}
}

func TestRankAfterASplit(t *testing.T) {
	r := modRing(1000003)
	for rank := 1; rank <= 12; rank++ {
		for _, first := range []int{1, 2, 8} {
			a := axes{labelsFrom(2, rank), slices.Repeat([]int{1}, rank)}
			for _, k := range []int{0, rank / 2, rank - 1} {
				a.dims = slices.Repeat([]int{1}, rank)
				a.dims[k] = first
				tensor := tensorWith(a, elemsFor(r, first, 1))
				for n := 1; n <= 15; n++ {
					labels := labelsFrom(3, n)
					dims := slices.Repeat([]int{1}, n)
					dims[n/2] = first
					if rank-1+n > 12 {
						noSplit(t, r, tensor, a.labels[k], labels, dims)
						continue
					}
					sameSplit(t, r, tensor, a.labels[k], labels, dims)
				}
			}
		}
	}
	// With the greatest tensors.
	eight := tensorWith(axes{labelsFrom(2, 4), []int{8, 8, 8, 8}}, elemsFor(r, 4096, 1))
	for _, label := range eight.Labels {
		sameSplit(t, r, eight, label, labelsFrom(3, 9), []int{1, 2, 1, 1, 2, 1, 2, 1, 1})
		noSplit(t, r, eight, label, labelsFrom(3, 10), []int{1, 2, 1, 1, 2, 1, 2, 1, 1, 1})
	}
	two := tensorWith(axes{labelsFrom(2, 12), slices.Repeat([]int{2}, 12)}, elemsFor(r, 4096, 1))
	for _, label := range two.Labels {
		sameSplit(t, r, two, label, []int{3}, []int{2})
		noSplit(t, r, two, label, []int{3, 4}, []int{2, 1})
	}
	for _, n := range []int{100, 101, 100000} {
		noSplit(t, r, line(3, 1, 5), 3, slices.Repeat([]int{3, 4}, n/2), slices.Repeat([]int{1}, n/2*2))
		noSplit(t, r, line(3, 1, 5), 3, labelsFrom(0, min(n, 100)), slices.Repeat([]int{1}, min(n, 100)))
		noSplit(t, r, line(3, 1, 5), 3, []int{3}, slices.Repeat([]int{1}, n))
		noFuse(t, r, line(3, 1, 5), slices.Repeat([]int{3}, n), 3)
		noFuse(t, r, box(), slices.Repeat([]int{4, 1}, n), 3)
		noFuse(t, r, box(), slices.Repeat([]int{5}, n), 3)
	}
}

func TestDeltaTensor(t *testing.T) {
	r := modRing(1000003)
	nine := impl.Tensor{Labels: []int{5, 2}, Dims: []int{3, 3}, Data: []int{1, 0, 0, 0, 1, 0, 0, 0, 1}}
	for _, c := range []struct {
		r      impl.Ring
		labels []int
		d      int
		want   impl.Tensor
	}{
		// Without labels the element is one, whatever the dimension.
		{r, nil, 1, point(1)},
		{r, nil, 2, point(1)},
		{r, []int{}, 8, point(1)},
		{r, []int{4}, 1, line(4, 1, 1)},
		{r, []int{4}, 3, line(4, 3, 1, 1, 1)},
		{r, []int{99}, 8, line(99, 8, 1, 1, 1, 1, 1, 1, 1, 1)},
		{r, []int{0, 99}, 1, impl.Tensor{Labels: []int{0, 99}, Dims: []int{1, 1}, Data: []int{1}}},
		{r, []int{7, 3}, 2, square(7, 3, 1, 0, 0, 1)},
		{r, []int{5, 2}, 3, nine},
		{r, []int{7, 3, 5}, 2, cube(7, 3, 5, 1, 0, 0, 0, 0, 0, 0, 1)},
		{r, []int{7, 3, 5, 1}, 1, impl.Tensor{Labels: []int{7, 3, 5, 1}, Dims: []int{1, 1, 1, 1}, Data: []int{1}}},
		// The other rings.
		{boolRing(), []int{7, 3}, 2, square(7, 3, 1, 0, 0, 1)},
		{modRing(2), []int{7, 3}, 2, square(7, 3, 1, 0, 0, 1)},
		{capRing(9), []int{7, 3}, 2, square(7, 3, 1, 0, 0, 1)},
		{minRing(9), []int{7, 3}, 2, square(7, 3, 0, 9, 9, 0)},
		{minRing(9), nil, 2, point(0)},
		{wideRing(9), []int{7, 3}, 2, square(7, 3, 9, 0, 0, 9)},
		{wideRing(9), []int{7}, 2, line(7, 2, 9, 9)},
		{setRing(3), []int{7, 3}, 2, square(7, 3, 7, 0, 0, 7)},
		{polyRing(7, 1), []int{7, 3}, 2, square(7, 3, 1, 0, 0, 1)},
		{polyRing(7, 2), []int{7, 3}, 2, square(7, 3, 1, 0, 0, 0, 0, 0, 1, 0)},
		{polyRing(7, 3), []int{7}, 2, line(7, 2, 1, 0, 0, 1, 0, 0)},
		{omegaRing(17), []int{7, 3}, 2, square(7, 3, 1, 0, 0, 0, 0, 0, 0, 0, 0, 0, 0, 0, 1, 0, 0, 0)},
		{omegaRing(17), nil, 5, point(1, 0, 0, 0)},
	} {
		sameTensor(t, "a delta tensor", delta(t, c.r, c.labels, c.d), c.want)
		want, _ := wantedDelta(c.r, c.labels, c.d)
		sameTensor(t, "what the tests expect", want, c.want)
	}
}

// All dimensions and all numbers of labels, within the limits and beyond them.
func TestDeltasOfEverySize(t *testing.T) {
	for _, r := range fullRings() {
		for d := -2; d <= 11; d++ {
			for n := range 15 {
				labels := labelsFrom(5*n+d+2, n)
				sameDelta(t, r, labels, d)
				size := int(math.Pow(float64(d), float64(n)))
				if ok := d >= 1 && d <= 8 && n <= 12 && size <= 4096; !ok {
					noDelta(t, r, labels, d)
				} else if got := delta(t, r, labels, d); len(got.Data) != size*impl.RingWidth(r) {
					t.Errorf("over %v a delta tensor of %d labels with %d has %d integers", r, n, d, len(got.Data))
				}
			}
		}
	}
}

func TestNoDeltas(t *testing.T) {
	for _, r := range fullRings() {
		for _, labels := range [][]int{nil, {}, {3}, {3, 5}, {5, 3, 0}, labelsFrom(0, 12)} {
			for _, d := range []int{0, -1, 9, 10, 16, -8, 1 << 32, 1<<32 + 1, 1<<32 + 2, -1 << 32, math.MinInt, math.MaxInt, math.MinInt + 1} {
				noDelta(t, r, labels, d)
			}
		}
		for _, labels := range [][]int{
			{3, 3}, {0, 0}, {3, 5, 3}, {3, 5, 5}, {99, 99, 3}, {-1}, {100}, {3, -1}, {100, 3}, {3, 5, 100}, {1 << 32}, {3, 3 + 1<<32}, {math.MinInt}, {3, math.MaxInt},
			labelsFrom(0, 13), labelsFrom(0, 14), labelsFrom(0, 99), append(labelsFrom(0, 11), 0), append(labelsFrom(0, 11), 100), slices.Repeat([]int{7}, 1000), slices.Repeat([]int{-7}, 100000),
		} {
			for d := -1; d <= 9; d++ {
				noDelta(t, r, labels, d)
			}
		}
	}
}

func TestEveryLabelOfADelta(t *testing.T) {
	for _, r := range []impl.Ring{minRing(9), polyRing(7, 2)} {
		for label := -300; label <= 300; label++ {
			sameDelta(t, r, []int{label}, 3)
			sameDelta(t, r, []int{4, label}, 2)
			sameDelta(t, r, []int{label, 98, 0}, 1)
		}
		for _, labels := range listsOf(4, -1, 0, 3, 99, 100) {
			for d := range 4 {
				sameDelta(t, r, labels, d)
			}
		}
	}
}

// noFuses looks for the answers of all the functions to arguments among which
// the ring or the tensor is not valid.
func noFuses(t *testing.T, r impl.Ring, tensor impl.Tensor) {
	t.Helper()
	noFuse(t, r, tensor, nil, freeLabel)
	noFuse(t, r, tensor, tensor.Labels, freeLabel)
	noFuse(t, r, tensor, []int{0}, freeLabel)
	noSplit(t, r, tensor, 0, nil, nil)
	noSplit(t, r, tensor, 0, []int{0}, []int{1})
	noSplit(t, r, tensor, freeLabel, []int{freeLabel}, []int{1})
	for k, label := range tensor.Labels[:min(4, len(tensor.Labels))] {
		noFuse(t, r, tensor, []int{label}, freeLabel)
		noFuse(t, r, tensor, []int{label}, label)
		noFuse(t, r, tensor, tensor.Labels, label)
		for _, d := range tensor.Dims[:min(4, len(tensor.Dims))] {
			noSplit(t, r, tensor, label, []int{label}, []int{d})
			noSplit(t, r, tensor, label, []int{freeLabel}, []int{d})
			noSplit(t, r, tensor, label, []int{freeLabel, label}, []int{1, d})
			noSplit(t, r, tensor, label, []int{freeLabel, label}, []int{d, k})
		}
	}
}

func TestNoFusesOfWrongTensors(t *testing.T) {
	t.Parallel()
	for _, a := range notAxes {
		for _, data := range [][]int{nil, {0}, {0, 0}, dataOf(a.dims)} {
			tensor := impl.Tensor{Labels: a.labels, Dims: a.dims, Data: data}
			noFuses(t, boolRing(), tensor)
			noFuses(t, polyRing(7, 1), tensor)
		}
	}
	small := []axes{{[]int{3, 5}, []int{2, 2}}, {[]int{5, 3, 1}, []int{1, 2, 1}}}
	for _, c := range axesCases[:13] {
		small = append(small, c.axes)
	}
	for _, r := range fullRings() {
		for i, a := range small {
			tensor := tensorWith(a, elemsFor(r, countOf(a.dims), i))
			for _, wrong := range withWrongData(r, tensor) {
				noFuses(t, r, wrong)
			}
		}
	}
	// As many integers, but elements of another width or too great ones.
	six := impl.Tensor{Labels: []int{4}, Dims: []int{3}, Data: []int{1, 2, 3, 4, 5, 6}}
	noFuses(t, polyRing(7, 3), six)
	noFuses(t, polyRing(5, 2), six)
	noFuses(t, capRing(9), six)
	// These would be right after a split, or were so before one.
	r := boolRing()
	noSplit(t, r, line(3, 16, slices.Repeat([]int{1}, 16)...), 3, []int{3, 4}, []int{4, 4})
	noSplit(t, r, line(3, 9, slices.Repeat([]int{1}, 9)...), 3, []int{3, 4}, []int{3, 3})
	noSplit(t, r, line(100, 2, 1, 1), 100, []int{3}, []int{2})
	noSplit(t, r, line(-1, 2, 1, 1), -1, []int{3}, []int{2})
	noSplit(t, r, square(3, 3, 1, 1, 1, 1), 3, []int{4}, []int{2})
	noSplit(t, r, square(3, 3, 1, 1, 1, 1), 3, []int{4}, []int{4})
	noFuse(t, r, square(3, 3, 1, 1, 1, 1), []int{3, 3}, 3)
	noFuse(t, r, square(3, 3, 1, 1, 1, 1), []int{3}, 3)
	noFuse(t, r, line(100, 2, 1, 1), []int{100}, 3)
	noFuse(t, r, square(100, 3, 1, 1, 1, 1), []int{100, 3}, 3)
	noFuse(t, r, sized(0, slices.Repeat([]int{1}, 13)...), labelsFrom(0, 13), 3)
	noFuse(t, r, sized(0, slices.Repeat([]int{1}, 13)...), []int{0, 37}, 0)
	noFuse(t, r, impl.Tensor{}, nil, 3)
	noFuse(t, r, impl.Tensor{}, []int{3}, 3)
	noSplit(t, r, impl.Tensor{}, 3, []int{3}, []int{1})
}

func TestNoFusesOverInvalidRings(t *testing.T) {
	for _, r := range notRings {
		for _, c := range axesCases[:12] {
			for _, data := range [][]int{nil, make([]int, c.size), make([]int, 4*c.size), make([]int, max(0, min(r.N, 9))*c.size)} {
				noFuses(t, r, impl.Tensor{Labels: c.labels, Dims: c.dims, Data: data})
			}
			for d := range 10 {
				noDelta(t, r, c.labels, d)
			}
		}
		noFuses(t, r, square(3, 5, 0, 0, 0, 0))
		noDelta(t, r, nil, math.MinInt)
		noDelta(t, r, []int{3, 3}, 2)
	}
}

// A tensor of every ring that is not one of another ring.
func TestFusesLookAtTheRing(t *testing.T) {
	r := modRing(7)
	tensor := square(3, 5, 6, 0, 1, 2)
	sameFuse(t, r, tensor, []int{5, 3}, 8)
	noFuse(t, modRing(5), tensor, []int{5, 3}, 8)
	noFuse(t, boolRing(), tensor, []int{5, 3}, 8)
	noFuse(t, polyRing(7, 2), tensor, []int{5, 3}, 8)
	noFuse(t, omegaRing(17), tensor, []int{5, 3}, 8)
	sameSplit(t, r, tensor, 3, []int{3, 8}, []int{1, 2})
	noSplit(t, modRing(5), tensor, 3, []int{3, 8}, []int{1, 2})
	noSplit(t, boolRing(), tensor, 3, []int{3, 8}, []int{1, 2})
	noSplit(t, polyRing(7, 2), tensor, 3, []int{3, 8}, []int{1, 2})
	noSplit(t, omegaRing(17), tensor, 3, []int{3, 8}, []int{1, 2})
}

func TestLawsOfFuses(t *testing.T) {
	t.Parallel()
	for j, r := range fullRings() {
		for i, c := range axesCases {
			if c.size > 1000 && (i+j)%7 != 0 {
				// All the axes come over some of the rings.
				continue
			}
			a, b := tensorWith(c.axes, elemsFor(r, c.size, i)), tensorWith(c.axes, elemsFor(r, c.size, i+7))
			x := elemsFor(r, 4, i)[3]
			for k, labels := range someFused(c.axes) {
				if (c.size > 300 || len(c.labels) > 4) && (i+j+k)%13 != 0 || len(labels) == 0 || !isDistinct(labels) || countOf(dimsIn(c.axes, labels)) > 8 {
					continue
				}
				of := func(tensor impl.Tensor) impl.Tensor { return fused(t, r, tensor, labels, freeLabel) }
				rest, _ := without(c.axes, labels)
				for _, order := range someOrders(c.labels) {
					moved, _ := without(axes{order, dimsIn(c.axes, order)}, labels)
					got := of(permute(t, r, a, order))
					sameTensor(t, "a tensor fused in another order", got, permute(t, r, of(a), append(moved.labels, freeLabel)))
				}
				sameTensor(t, "a fused sum", of(plusTensors(t, r, a, b)), plusTensors(t, r, of(a), of(b)))
				sameTensor(t, "fused products", of(timesTensors(t, r, a, b)), timesTensors(t, r, of(a), of(b)))
				sameTensor(t, "a fused scaled tensor", of(scaled(t, r, a, x)), scaled(t, r, of(a), x))
				sameTensor(t, "a fused tensor summed", summed(t, r, of(a), rest.labels), summed(t, r, a, rest.labels))
				sameTensor(t, "a sum over all but the fused label", summed(t, r, of(a), []int{freeLabel}), of(summed(t, r, a, labels)))
				sameTensor(t, "a fused tensor contracted", pair(t, r, of(a), of(b), rest.labels), pair(t, r, a, b, rest.labels))
				for n, index := range indicesOf(dimsIn(c.axes, labels)) {
					sameTensor(t, "a slice of a fused label", sliced(t, r, of(a), freeLabel, n), fixed(t, r, a, labels, index))
				}
				for n, label := range rest.labels {
					value := (i + n) % rest.dims[n]
					sameTensor(t, "a slice of another label", sliced(t, r, of(a), label, value), of(sliced(t, r, a, label, value)))
				}
				renamed := relabel(t, r, a, labels, rotated(labels, 1))
				sameTensor(t, "a renamed tensor fused", fused(t, r, renamed, rotated(labels, 1), freeLabel), of(a))
				sameTensor(t, "a fused tensor renamed", relabel(t, r, of(a), []int{freeLabel}, labels[:1]), fused(t, r, a, labels, labels[0]))
				if len(labels) > 1 {
					// Fused at once, or the first ones before the others.
					two := fused(t, r, a, labels[:len(labels)-1], freeLabel+1)
					sameTensor(t, "a tensor fused twice", fused(t, r, two, []int{freeLabel + 1, labels[len(labels)-1]}, freeLabel), of(a))
					two = fused(t, r, a, labels[1:], labels[1])
					sameTensor(t, "a tensor fused twice", fused(t, r, two, labels[:2], freeLabel), of(a))
				}
			}
			if t.Failed() {
				t.Fatalf("over %v of %v", r, c.axes)
			}
		}
	}
}

// Labels that two tensors share may be fused before they are contracted, and
// others after it.
func TestFusesOfPairs(t *testing.T) {
	pairs := [][2]axes{
		{{[]int{0, 1, 2}, []int{2, 3, 2}}, {[]int{2, 3, 1}, []int{2, 2, 3}}},
		{{[]int{1, 0, 2}, []int{2, 3, 2}}, {[]int{1, 2, 3}, []int{2, 2, 2}}},
		{{[]int{1, 2}, []int{4, 2}}, {[]int{2, 1}, []int{2, 4}}},
		{{[]int{1, 0, 2, 5}, []int{1, 2, 2, 2}}, {[]int{6, 2, 3, 1}, []int{3, 2, 2, 1}}},
	}
	for _, r := range fullRings() {
		for i, c := range pairs {
			a := tensorWith(c[0], elemsFor(r, countOf(c[0].dims), i))
			b := tensorWith(c[1], elemsFor(r, countOf(c[1].dims), 3*i+1))
			join, _ := wantedJoin(c[0], c[1])
			for _, order := range allOrders([]int{1, 2}) {
				fusedA, fusedB := fused(t, r, a, order, 8), fused(t, r, b, order, 8)
				rest, _ := without(join, order)
				for _, keep := range subsets(rest.labels) {
					sameTensor(t, "a pair of fused tensors", pair(t, r, fusedA, fusedB, keep), pair(t, r, a, b, keep))
					kept := pair(t, r, a, b, slices.Concat(keep, order))
					same(t, r, pair(t, r, fusedA, fusedB, append([]int{8}, keep...)), fused(t, r, kept, order, 8), true)
				}
			}
			if t.Failed() {
				t.Fatalf("over %v of %v and %v", r, c[0], c[1])
			}
		}
	}
}

func TestFusesOfStacks(t *testing.T) {
	for _, r := range fullRings() {
		a := axes{[]int{4, 1, 9}, []int{2, 3, 2}}
		for n := 1; n <= 8; n++ {
			l := stackOf(r, a, n, a.labels, backward(a.labels))
			stack := stacked(t, r, l, 5)
			for _, labels := range [][]int{{4}, {1, 9}, {9, 1}, {4, 9}} {
				var layers []impl.Tensor
				for _, layer := range l {
					layers = append(layers, fused(t, r, layer, labels, 8))
				}
				same(t, r, stacked(t, r, layers, 5), fused(t, r, stack, labels, 8), true)
			}
			if 2*n <= 8 {
				// The layers are one after another where their label counts most.
				got := fused(t, r, stack, []int{5, 4}, 8)
				for k, layer := range l {
					for value := range 2 {
						want := permute(t, r, sliced(t, r, layer, 4, value), []int{1, 9})
						sameTensor(t, "a slice of a fused stack", sliced(t, r, got, 8, 2*k+value), want)
					}
				}
			}
		}
	}
}

func TestLawsOfSplits(t *testing.T) {
	for _, r := range fullRings() {
		for i, c := range []struct {
			axes
			label int
			parts []int
		}{
			{axes{[]int{4, 1, 9}, []int{6, 3, 2}}, 4, []int{2, 3}},
			{axes{[]int{4, 1, 9}, []int{3, 4, 2}}, 1, []int{2, 2}},
			{axes{[]int{4, 1, 9}, []int{3, 2, 8}}, 9, []int{4, 2}},
			{axes{[]int{9, 1}, []int{3, 7}}, 1, []int{1, 7}},
			{axes{[]int{9}, []int{8}}, 9, []int{2, 4}},
			{axes{[]int{9}, []int{1}}, 9, []int{1, 1}},
		} {
			elems := elemsFor(r, countOf(c.dims), i)
			a, b := tensorWith(c.axes, elems), tensorWith(c.axes, elemsFor(r, countOf(c.dims), i+7))
			rest, _ := without(c.axes, []int{c.label})
			for _, labels := range [][]int{{20, 30}, {30, 20}, {c.label, 0}, {0, c.label}} {
				of := func(tensor impl.Tensor) impl.Tensor { return split(t, r, tensor, c.label, labels, c.parts) }
				for _, order := range someOrders(c.labels) {
					moved, _ := without(axes{order, dimsIn(c.axes, order)}, []int{c.label})
					got := of(permute(t, r, a, order))
					sameTensor(t, "a tensor split in another order", got, permute(t, r, of(a), slices.Concat(moved.labels, labels)))
				}
				sameTensor(t, "a split sum", of(plusTensors(t, r, a, b)), plusTensors(t, r, of(a), of(b)))
				sameTensor(t, "split products", of(timesTensors(t, r, a, b)), timesTensors(t, r, of(a), of(b)))
				sameTensor(t, "a split tensor summed", summed(t, r, of(a), rest.labels), summed(t, r, a, rest.labels))
				sameTensor(t, "a split tensor contracted", pair(t, r, of(a), of(b), rest.labels), pair(t, r, a, b, rest.labels))
				for n, index := range indicesOf(c.parts) {
					sameTensor(t, "a slice of split labels", fixed(t, r, of(a), labels, index), sliced(t, r, a, c.label, n))
				}
			}
			three := split(t, r, a, c.label, []int{20, 30, 40}, append(slices.Clone(c.parts), 1))
			two := split(t, r, a, c.label, []int{20, 30}, c.parts)
			sameTensor(t, "a label split twice", split(t, r, two, 30, []int{30, 40}, []int{c.parts[1], 1}), three)
			if t.Failed() {
				t.Fatalf("over %v of %v", r, c.axes)
			}
		}
	}
}

func TestLawsOfDeltas(t *testing.T) {
	for _, r := range fullRings() {
		for d := 1; d <= 8; d++ {
			for _, labels := range [][]int{nil, {3}, {3, 0}, {99, 3, 0}, {7, 3, 0, 50}}[:min(5, 1+12/d)] {
				all := delta(t, r, labels, d)
				for _, order := range someOrders(labels) {
					sameTensor(t, "a delta tensor in another order", permute(t, r, all, order), delta(t, r, order, d))
				}
				if len(labels) > 1 {
					sameTensor(t, "a diagonal of a delta tensor", diagonal(t, r, all, labels[0], labels[1]), delta(t, r, slices.Delete(slices.Clone(labels), 1, 2), d))
					// A sum of one and zeros is one.
					sameTensor(t, "a sum of a delta tensor", summed(t, r, all, labels[1:]), delta(t, r, labels[1:], d))
				}
				// One label of two deltas joins them to one.
				if len(labels) > 0 && len(labels) < 4 {
					got := pair(t, r, all, delta(t, r, []int{20, labels[0]}, d), slices.Concat(labels[1:], []int{20}))
					sameTensor(t, "two deltas", got, delta(t, r, append(slices.Clone(labels[1:]), 20), d))
				}
			}
		}
		for d := 1; d <= 4; d++ {
			a := tensorWith(axes{[]int{6, 9, 2}, []int{d, 2, d}}, elemsFor(r, 2*d*d, 1))
			sameTensor(t, "a tensor with a label renamed by a delta", pair(t, r, a, delta(t, r, []int{6, 8}, d), []int{9, 2, 8}), permute(t, r, relabel(t, r, a, []int{6}, []int{8}), []int{9, 2, 8}))
			sameTensor(t, "a diagonal by a delta", pair(t, r, a, delta(t, r, []int{2, 6}, d), []int{6, 9}), diagonal(t, r, a, 6, 2))
			sameTensor(t, "a trace by a delta", pair(t, r, a, delta(t, r, []int{2, 6}, d), []int{9}), summed(t, r, diagonal(t, r, a, 6, 2), []int{9}))
			sameTensor(t, "a sum by a delta", pair(t, r, a, delta(t, r, []int{6}, d), []int{9, 2}), summed(t, r, a, []int{9, 2}))
			sameTensor(t, "a tensor by a delta without labels", pair(t, r, a, delta(t, r, nil, d), []int{6, 9, 2}), a)
		}
		// Fused pairs of labels of two deltas make one of the fused labels.
		for _, d := range []int{1, 2} {
			both := pair(t, r, delta(t, r, []int{1, 2}, d), delta(t, r, []int{3, 4}, d), []int{1, 2, 3, 4})
			both = fused(t, r, fused(t, r, both, []int{1, 3}, 8), []int{2, 4}, 9)
			sameTensor(t, "two deltas fused to one", both, delta(t, r, []int{8, 9}, d*d))
		}
	}
}

func TestMapsKeepFuses(t *testing.T) {
	for k, c := range slices.Concat(smallHoms(), greatHoms()) {
		a := axes{[]int{7, 98, 3}, []int{2, 3, 4}}
		tensor := tensorWith(a, elemsFor(c.from, 24, k))
		image := mapped(t, c, tensor)
		for _, labels := range [][]int{{7, 98}, {98, 7}, {3, 7}, {3}} {
			sameTensor(t, "an image of a fused tensor", mapped(t, c, fused(t, c.from, tensor, labels, labels[0])), fused(t, c.to, image, labels, labels[0]))
		}
		parts := []int{2, 2}
		sameTensor(t, "an image of a split tensor", mapped(t, c, split(t, c.from, tensor, 3, []int{0, 3}, parts)), split(t, c.to, image, 3, []int{0, 3}, parts))
		for n := range 4 {
			labels, d := labelsFrom(k, n), 1+(k+n)%8
			sameTensor(t, "an image of a delta tensor", mapped(t, c, delta(t, c.from, labels, d)), delta(t, c.to, labels, d))
		}
		if t.Failed() {
			t.Fatalf("%v", c)
		}
	}
}

func TestFuseAllSmallTensors(t *testing.T) {
	t.Parallel()
	r := boolRing()
	for _, tensor := range smallTensors() {
		for _, labels := range listsOf(3, 0, 1, 2) {
			for into := range 4 {
				sameFuse(t, r, tensor, labels, into)
			}
			for _, dims := range listsOf(3, 1, 2) {
				if len(dims) == len(labels) {
					sameSplit(t, r, tensor, 0, labels, dims)
					sameSplit(t, r, tensor, 1, labels, dims)
				}
			}
		}
	}
}

func TestFusedTensorsStay(t *testing.T) {
	for j, r := range fullRings() {
		for i, c := range axesCases {
			if c.size > 1000 && (i+j)%5 != 0 {
				// All the axes come over some of the rings.
				continue
			}
			before := tensorWith(c.axes, elemsFor(r, c.size, i))
			tensor := spareTensor(before)
			for range 2 {
				// What the results share with an argument changes here.
				for k, label := range c.labels {
					labels, dims := withSpare([]int{label}, -9), withSpare([]int{c.dims[k]}, -9)
					// Nothing is moved where this is the last label.
					want, _ := wantedFuse(r, before, []int{label}, label)
					got := fused(t, r, tensor, labels, label)
					sameTensor(t, "a tensor with one fused label", got, want)
					spoilTensor(got)
					got = split(t, r, tensor, label, labels, dims)
					sameTensor(t, "a tensor with a label split to itself", got, want)
					spoilTensor(got)
					sameList(t, "the labels", labels[:4], []int{label, -9, -9, -9})
					sameList(t, "the dimensions", dims[:4], []int{c.dims[k], -9, -9, -9})
				}
				for n := range c.labels {
					last := c.labels[n:]
					if countOf(c.dims[n:]) > 8 {
						continue
					}
					labels := withSpare(last, -9)
					want, _ := wantedFuse(r, before, last, freeLabel)
					got := fused(t, r, tensor, labels, freeLabel)
					sameTensor(t, "a tensor with fused labels", got, want)
					dims := withSpare(c.dims[n:], -9)
					back := split(t, r, got, freeLabel, labels, dims)
					spoilTensor(got)
					sameTensor(t, "a tensor with labels fused and split", back, before)
					spoilTensor(back)
					sameList(t, "the labels", labels[:len(labels)+3], append(slices.Clone(last), -9, -9, -9))
					sameList(t, "the dimensions", dims[:len(dims)+3], append(slices.Clone(c.dims[n:]), -9, -9, -9))
				}
			}
			stays(t, "a part of a tensor", tensor, before)
			if t.Failed() {
				t.Fatalf("over %v of %v", r, c.axes)
			}
		}
	}
}

func TestLabelsOfDeltasStay(t *testing.T) {
	for _, r := range fullRings() {
		for n := range 5 {
			for range 2 {
				labels := withSpare(labelsFrom(7, n), -9)
				for d := 1; d <= 8; d++ {
					want, ok := wantedDelta(r, labelsFrom(7, n), d)
					if !ok {
						continue
					}
					got := delta(t, r, labels, d)
					sameTensor(t, "a delta tensor", got, want)
					spoilTensor(got)
				}
				noDelta(t, r, labels, 9)
				sameList(t, "the labels", labels[:n+3], append(labelsFrom(7, n), -9, -9, -9))
			}
		}
	}
}

// Arguments may share memory with each other.
func TestFusesOfArgumentsInCommonMemory(t *testing.T) {
	r := modRing(7)
	l := []int{1, 2}
	c := impl.Tensor{Labels: l, Dims: l, Data: l}
	sameTensor(t, "a fused tensor", fused(t, r, c, l, 2), line(2, 2, 1, 2))
	sameTensor(t, "a fused tensor", fused(t, r, c, l[:1], 0), impl.Tensor{Labels: []int{2, 0}, Dims: []int{2, 1}, Data: []int{1, 2}})
	sameTensor(t, "a split tensor", split(t, r, line(5, 2, 1, 2), 5, l, l), c)
	sameTensor(t, "a split tensor", split(t, r, c, 2, l[1:], l[1:]), c)
	noSplit(t, r, c, 2, l, l)
	data := []int{6, 4, 2, 3, 0, 5, 1, 3}
	six := impl.Tensor{Labels: data[1:2], Dims: data[:1], Data: data[:6]}
	sameTensor(t, "a split tensor", split(t, r, six, 4, data[1:3], data[2:4]), impl.Tensor{Labels: []int{4, 2}, Dims: []int{2, 3}, Data: []int{6, 4, 2, 3, 0, 5}})
	sameTensor(t, "a fused tensor", fused(t, r, six, data[1:2], 4), line(4, 6, 6, 4, 2, 3, 0, 5))
	sameList(t, "the data", data, []int{6, 4, 2, 3, 0, 5, 1, 3})
	sameList(t, "the list", l, []int{1, 2})
}

func TestPartsOfFusedTensorsAreApart(t *testing.T) {
	r := capRing(1)
	l := []int{1}
	tensor := impl.Tensor{Labels: l, Dims: l, Data: l}
	small := impl.Tensor{Labels: []int{1, 0}, Dims: []int{1, 1}, Data: l}
	zero := line(0, 1, 1)
	partsApart(t, l, fused(t, r, tensor, l, 1), fused(t, r, small, []int{0, 1}, 1), split(t, r, tensor, 1, l, l), split(t, r, zero, 0, l, l), delta(t, r, l, 1))
}

func TestInvalidTensorsStayWithFuses(t *testing.T) {
	r := polyRing(7, 2)
	// The last one is valid, but the other arguments do not suit it.
	valid := impl.Tensor{Labels: []int{4, 3}, Dims: []int{2, 1}, Data: []int{1, 2, 3, 4}}
	for _, before := range append(slices.Clone(brokenTensors), valid) {
		tensor := spareTensor(before)
		labels, dims, twice := withSpare([]int{9, 8}, -9), withSpare([]int{2, 2}, -9), withSpare([]int{3, 3}, -9)
		noFuse(t, r, tensor, labels, 8)
		noFuse(t, r, tensor, twice, 8)
		noSplit(t, r, tensor, 4, labels, dims)
		noSplit(t, r, tensor, 4, twice, dims)
		noDelta(t, r, twice, 2)
		stays(t, "a part of a tensor", tensor, before)
		sameList(t, "the labels", labels[:5], []int{9, 8, -9, -9, -9})
		sameList(t, "the dimensions", dims[:5], []int{2, 2, -9, -9, -9})
		sameList(t, "labels that are there twice", twice[:5], []int{3, 3, -9, -9, -9})
	}
}
