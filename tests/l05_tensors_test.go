package tests

import (
	"math"
	"slices"
	"testing"

	"loop.example/g03211/impl"
)

type axes struct {
	labels []int
	dims   []int
}

func (a axes) tensor() impl.Tensor {
	return impl.Tensor{Labels: a.labels, Dims: a.dims}
}

// labelsFrom returns n labels that are distinct and in no order, if n is not
// greater than 99.
func labelsFrom(first int, n int) []int {
	labels := make([]int, n)
	for i := range labels {
		labels[i] = (first + 37*i) % 100
	}
	return labels
}

// axesCases names the size of axes that tensors can have.
var axesCases = []struct {
	axes
	size int
}{
	{axes{nil, nil}, 1},
	{axes{[]int{}, []int{}}, 1},
	{axes{[]int{0}, []int{1}}, 1},
	{axes{[]int{99}, []int{8}}, 8},
	{axes{[]int{50}, []int{3}}, 3},
	{axes{[]int{2, 5}, []int{2, 3}}, 6},
	{axes{[]int{5, 2}, []int{3, 2}}, 6},
	{axes{[]int{99, 0}, []int{8, 1}}, 8},
	{axes{[]int{0, 99}, []int{1, 8}}, 8},
	{axes{[]int{1, 0, 2}, []int{1, 1, 1}}, 1},
	{axes{[]int{7, 98, 3}, []int{2, 3, 4}}, 24},
	{axes{[]int{3, 7, 98}, []int{4, 1, 5}}, 20},
	{axes{[]int{11, 10, 12, 13}, []int{8, 8, 8, 8}}, 4096},
	{axes{[]int{11, 10, 12, 13}, []int{7, 8, 8, 8}}, 3584},
	{axes{[]int{0, 1, 2, 3, 4}, []int{4, 4, 4, 8, 8}}, 4096},
	{axes{[]int{0, 1, 2, 3, 4}, []int{5, 5, 5, 5, 6}}, 3750},
	{axes{[]int{0, 1, 2, 3, 4}, []int{5, 7, 6, 5, 3}}, 3150},
	{axes{labelsFrom(99, 11), slices.Repeat([]int{2}, 11)}, 2048},
	{axes{labelsFrom(0, 12), slices.Repeat([]int{2}, 12)}, 4096},
	{axes{labelsFrom(5, 12), slices.Repeat([]int{1}, 12)}, 1},
	{axes{labelsFrom(99, 12), []int{1, 2, 1, 3, 1, 1, 4, 1, 5, 1, 1, 8}}, 960},
}

// notAxes are the axes of no tensor.
var notAxes = []axes{
	{[]int{0}, nil},
	{nil, []int{1}},
	{[]int{0}, []int{2, 3}},
	{[]int{0, 1}, []int{2}},
	{[]int{0, 1, 2}, []int{2, 2}},
	{[]int{-1}, []int{2}},
	{[]int{100}, []int{2}},
	{[]int{1 << 32}, []int{2}},
	{[]int{math.MinInt}, []int{2}},
	{[]int{math.MaxInt}, []int{2}},
	{[]int{3, -1}, []int{2, 2}},
	{[]int{3, 100, 4}, []int{2, 2, 2}},
	{[]int{3, 3}, []int{2, 2}},
	{[]int{0, 0}, []int{1, 1}},
	{[]int{99, 4, 99}, []int{2, 2, 2}},
	{[]int{4, 99, 99}, []int{2, 2, 2}},
	{[]int{0}, []int{0}},
	{[]int{0}, []int{-1}},
	{[]int{0}, []int{9}},
	{[]int{0}, []int{64}},
	{[]int{0}, []int{1<<32 + 1}},
	{[]int{0}, []int{math.MinInt}},
	{[]int{0}, []int{math.MaxInt}},
	{[]int{0, 1}, []int{-2, -3}},
	{[]int{0, 1}, []int{0, 9}},
	{[]int{0, 1}, []int{8, 0}},
	{[]int{0, 1}, []int{9, 1}},
	{[]int{0, 1}, []int{1, 16}},
	{[]int{0, 1}, []int{1 << 32, 1 << 32}},
	{[]int{0, 1}, []int{math.MaxInt, math.MaxInt}},
	{[]int{0, 1}, []int{math.MinInt, 2}},
	{[]int{0, 1}, []int{-1, math.MinInt}},
	{[]int{0, 1, 2, 3, 4}, []int{8, 8, 8, 8, 2}},
	{[]int{0, 1, 2, 3, 4}, []int{2, 8, 8, 8, 8}},
	{[]int{0, 1, 2, 3, 4}, []int{5, 5, 5, 5, 7}},
	{[]int{0, 1, 2, 3, 4, 5}, []int{4, 4, 4, 4, 4, 5}},
	{labelsFrom(0, 12), slices.Repeat([]int{8}, 12)},
	{labelsFrom(0, 12), append(slices.Repeat([]int{2}, 11), 3)},
	{labelsFrom(0, 13), slices.Repeat([]int{1}, 13)},
	{labelsFrom(0, 13), slices.Repeat([]int{8}, 13)},
	{labelsFrom(0, 22), slices.Repeat([]int{8}, 22)},
	{labelsFrom(0, 64), slices.Repeat([]int{2}, 64)},
	{labelsFrom(0, 99), slices.Repeat([]int{1}, 99)},
	{make([]int, 13), slices.Repeat([]int{1}, 13)},
	{labelsFrom(0, 12), slices.Repeat([]int{1}, 13)},
	{labelsFrom(0, 13), slices.Repeat([]int{1}, 12)},
	{slices.Repeat([]int{7}, 1000), slices.Repeat([]int{2}, 1000)},
}

// fullRings are rings of every kind and of every width.
func fullRings() []impl.Ring {
	rings := []impl.Ring{boolRing(), modRing(2), modRing(1000003), capRing(9), minRing(9), wideRing(9), setRing(20), omegaRing(17)}
	for n := 1; n <= 6; n++ {
		rings = append(rings, polyRing(7, n))
	}
	return rings
}

// indicesOf returns all the indices, in their order.
func indicesOf(dims []int) [][]int {
	indices := [][]int{{}}
	for _, d := range dims {
		var longer [][]int
		for _, index := range indices {
			for value := range d {
				longer = append(longer, append(slices.Clip(index), value))
			}
		}
		indices = longer
	}
	return indices
}

// notIndices returns lists that are no indices.
func notIndices(dims []int) [][]int {
	zero := make([]int, len(dims))
	bad := [][]int{append(slices.Clone(zero), 0), append(slices.Clone(zero), 0, 0), make([]int, len(dims)+100)}
	for n := range dims {
		bad = append(bad, zero[:n])
		for _, value := range []int{-1, dims[n], dims[n] + 1, -dims[n], 1 << 32, math.MinInt, math.MaxInt} {
			index := slices.Clone(zero)
			index[n] = value
			bad = append(bad, index)
		}
	}
	return bad
}

// notOffsets returns numbers that are not from 0 to size-1.
func notOffsets(size int) []int {
	return []int{-1, -2, -size, size, size + 1, 2 * size, 1 << 32, -1 << 32, math.MinInt, math.MaxInt}
}

// elemsFor returns elements for a tensor; different seeds give different ones,
// if the ring has enough of them.
func elemsFor(r impl.Ring, size int, seed int) [][]int {
	some := edgeElems(r, impl.RingWidth(r), topOf(r))
	elems := make([][]int, size)
	for k := range elems {
		elems[k] = some[(seed+k+k/len(some))%len(some)]
	}
	return elems
}

// tensorWith takes the axes to be valid.
func tensorWith(a axes, elems [][]int) impl.Tensor {
	return impl.Tensor{Labels: slices.Clone(a.labels), Dims: slices.Clone(a.dims), Data: slices.Concat(elems...)}
}

func sameTensor(t *testing.T, what string, got impl.Tensor, want impl.Tensor) {
	t.Helper()
	sameList(t, "the labels of "+what, got.Labels, want.Labels)
	sameList(t, "the dimensions of "+what, got.Dims, want.Dims)
	sameList(t, "the data of "+what, got.Data, want.Data)
}

func noTensor(t *testing.T, what string, got impl.Tensor) {
	t.Helper()
	sameTensor(t, what, got, impl.Tensor{})
}

func cloneTensor(t impl.Tensor) impl.Tensor {
	return impl.Tensor{Labels: slices.Clone(t.Labels), Dims: slices.Clone(t.Dims), Data: slices.Clone(t.Data)}
}

func spareTensor(t impl.Tensor) impl.Tensor {
	return impl.Tensor{Labels: withSpare(t.Labels, -9), Dims: withSpare(t.Dims, -9), Data: withSpare(t.Data, -9)}
}

// stays takes the first tensor to be made by spareTensor from the second one.
func stays(t *testing.T, what string, spare impl.Tensor, before impl.Tensor) {
	t.Helper()
	for _, part := range [][2][]int{{spare.Labels, before.Labels}, {spare.Dims, before.Dims}, {spare.Data, before.Data}} {
		sameList(t, what, part[0][:len(part[0])+3], append(slices.Clone(part[1]), -9, -9, -9))
	}
}

func spoilTensor(t impl.Tensor) {
	spoil(t.Labels, -5)
	spoil(t.Dims, -5)
	spoil(t.Data, -5)
}

func TestConstantsOfTensors(t *testing.T) {
	sameList(t, "the limits", []int{impl.MaxLabel, impl.MaxDim, impl.MaxRank, impl.MaxSize}, []int{99, 8, 12, 4096})
}

func TestTensorSize(t *testing.T) {
	for _, c := range axesCases {
		for _, data := range [][]int{nil, {}, {0}, {-1, math.MaxInt}, make([]int, c.size), make([]int, 5000)} {
			tensor := c.tensor()
			tensor.Data = data
			if got := impl.TensorSize(tensor); got != c.size {
				t.Errorf("TensorSize of %v with %d integers: %d, not %d", c.axes, len(data), got, c.size)
			}
		}
	}
}

// dataOf returns as many zeros as the product of the dimensions says, if this
// is a number of zeros that can be made.
func dataOf(dims []int) []int {
	size := 1
	for _, d := range dims {
		if d < 0 || d > 10000 || size > 10000 {
			return []int{0}
		}
		size *= d
	}
	return make([]int, size)
}

func TestNoAxes(t *testing.T) {
	for _, a := range notAxes {
		for _, data := range [][]int{nil, {0}, dataOf(a.dims)} {
			tensor := a.tensor()
			tensor.Data = data
			if got := impl.TensorSize(tensor); got != -1 {
				t.Errorf("TensorSize of %v: %d, not -1", a, got)
			}
			if impl.TensorOk(boolRing(), tensor) {
				t.Errorf("TensorOk of %v is true", a)
			}
			for _, index := range [][]int{nil, make([]int, len(a.labels)), make([]int, len(a.dims))} {
				if got := impl.OffsetOf(tensor, index); got != -1 {
					t.Errorf("OffsetOf(%v, %v): %d, not -1", a, index, got)
				}
				if got := impl.ElemAt(boolRing(), tensor, index); got != nil {
					t.Errorf("ElemAt(%v, %v): %v, not nil", a, index, got)
				}
				noTensor(t, "SetElem without axes", impl.SetElem(boolRing(), tensor, index, []int{1}))
			}
			for _, n := range []int{math.MinInt, -2, -1, 0, 1, 63, math.MaxInt} {
				if got, ok := impl.IndexAt(tensor, n); ok || got != nil {
					t.Errorf("IndexAt(%v, %d): %v, %t", a, n, got, ok)
				}
			}
		}
		for _, r := range fullRings() {
			got, ok := impl.ZeroTensor(r, a.labels, a.dims)
			noTensor(t, "ZeroTensor without axes", got)
			if ok {
				t.Errorf("ZeroTensor(%v, %v) gives true", r, a)
			}
		}
	}
}

// wantedSize follows the text of chapter 6.
func wantedSize(a axes) int {
	if len(a.labels) > 12 || len(a.dims) != len(a.labels) {
		return -1
	}
	size := 1
	for i, label := range a.labels {
		d := a.dims[i]
		if label < 0 || label > 99 || slices.Index(a.labels, label) != i || d < 1 || d > 8 {
			return -1
		}
		size *= d
	}
	if size > 4096 {
		return -1
	}
	return size
}

// listsOf returns the lists of these integers with up to n of them.
func listsOf(n int, values ...int) [][]int {
	lists := [][]int{nil}
	start := 0
	for range n {
		end := len(lists)
		for _, l := range lists[start:end] {
			for _, value := range values {
				lists = append(lists, append(slices.Clone(l), value))
			}
		}
		start = end
	}
	return lists
}

func TestTensorSizeOfManyAxes(t *testing.T) {
	var many []axes
	for _, labels := range listsOf(3, -1, 0, 1, 99, 100) {
		for _, dims := range listsOf(3, -1, 0, 1, 2, 8, 9) {
			many = append(many, axes{labels, dims})
		}
	}
	for _, dims := range listsOf(6, 1, 2, 5, 7, 8) {
		many = append(many, axes{labelsFrom(0, len(dims)), dims})
	}
	for n := -300; n <= 300; n++ {
		many = append(many, axes{[]int{n}, []int{3}}, axes{[]int{3}, []int{n}})
	}
	for rank := range 20 {
		many = append(many, axes{labelsFrom(1, rank), slices.Repeat([]int{1}, rank)})
	}
	for i := range 12 {
		for j := range i {
			labels := labelsFrom(2, 12)
			labels[i] = labels[j]
			many = append(many, axes{labels, slices.Repeat([]int{1}, 12)})
		}
	}
	for _, a := range many {
		want := wantedSize(a)
		if got := impl.TensorSize(a.tensor()); got != want {
			t.Errorf("TensorSize of %v: %d, not %d", a, got, want)
		}
		zero, ok := impl.ZeroTensor(boolRing(), a.labels, a.dims)
		if ok != (want > 0) || len(zero.Data) != max(want, 0) {
			t.Errorf("ZeroTensor of %v: %d integers, %t", a, len(zero.Data), ok)
		}
	}
}

func TestTensorOk(t *testing.T) {
	for _, r := range fullRings() {
		width, top := impl.RingWidth(r), topOf(r)
		for i, c := range axesCases {
			tensor := tensorWith(c.axes, elemsFor(r, c.size, i))
			if !impl.TensorOk(r, tensor) {
				t.Errorf("over %v TensorOk of a tensor with %v is false", r, c.axes)
			}
			length := len(tensor.Data)
			more := slices.Concat(tensor.Data, make([]int, 2*width))
			for _, n := range []int{0, 1, length - 1, length + 1, c.size, length - width, length + width, length + 2*width} {
				if n < 0 || n == length {
					continue
				}
				tensor.Data = more[:n]
				if impl.TensorOk(r, tensor) {
					t.Errorf("over %v TensorOk with %v and %d integers is true", r, c.axes, n)
				}
			}
			tensor.Data = slices.Clone(more[:length])
			for _, place := range []int{0, width - 1, length / 2, length - width, length - 1} {
				for _, n := range []int{-1, top + 1, 1<<32 + top, math.MinInt, math.MaxInt} {
					tensor.Data[place] = n
					if impl.TensorOk(r, tensor) {
						t.Errorf("over %v TensorOk with %v and %d in place %d is true", r, c.axes, n, place)
					}
				}
				tensor.Data[place] = top
				if !impl.TensorOk(r, tensor) {
					t.Errorf("over %v TensorOk with %v and %d in place %d is false", r, c.axes, top, place)
				}
			}
		}
	}
}

func TestEveryIntegerOfATensorCounts(t *testing.T) {
	r := polyRing(5, 3)
	a := axes{[]int{4, 0, 9}, []int{2, 3, 4}}
	tensor := tensorWith(a, elemsFor(r, 24, 1))
	for place, n := range tensor.Data {
		for _, bad := range []int{-1, 5} {
			tensor.Data[place] = bad
			if impl.TensorOk(r, tensor) || impl.ElemAt(r, tensor, []int{0, 0, 0}) != nil || impl.ElemAt(r, tensor, []int{1, 2, 3}) != nil {
				t.Errorf("%d in place %d does not count", bad, place)
			}
			noTensor(t, "a tensor with a wrong integer and another element changed", impl.SetElem(r, tensor, []int{1, 0, 2}, []int{1, 2, 3}))
			index := indicesOf(a.dims)[place/3]
			noTensor(t, "a tensor with its wrong element changed", impl.SetElem(r, tensor, index, []int{1, 2, 3}))
		}
		tensor.Data[place] = n
	}
}

func TestTensorsOfInvalidRings(t *testing.T) {
	for _, r := range notRings {
		for _, c := range axesCases[:12] {
			for _, data := range [][]int{nil, make([]int, c.size), make([]int, 4*c.size), make([]int, max(0, min(r.N, 9))*c.size)} {
				tensor := c.tensor()
				tensor.Data = data
				if impl.TensorOk(r, tensor) {
					t.Errorf("TensorOk over %v is true", r)
				}
				index := make([]int, len(c.dims))
				if got := impl.ElemAt(r, tensor, index); got != nil {
					t.Errorf("ElemAt over %v: %v, not nil", r, got)
				}
				for _, x := range [][]int{nil, {0}, {1}, {0, 0, 0, 0}} {
					noTensor(t, "SetElem over no ring", impl.SetElem(r, tensor, index, x))
				}
			}
			zero, ok := impl.ZeroTensor(r, c.labels, c.dims)
			noTensor(t, "ZeroTensor over no ring", zero)
			if ok {
				t.Errorf("ZeroTensor(%v, %v) gives true", r, c.axes)
			}
		}
		for _, x := range [][]int{nil, {}, {0}, {1}, {0, 0}, {1, 0, 0, 0}} {
			noTensor(t, "ScalarTensor over no ring", impl.ScalarTensor(r, x))
		}
	}
}

func TestIndices(t *testing.T) {
	tensor := impl.Tensor{Labels: []int{8, 3, 5}, Dims: []int{2, 3, 4}}
	for _, c := range []struct {
		n     int
		index []int
	}{
		{0, []int{0, 0, 0}},
		{1, []int{0, 0, 1}},
		{3, []int{0, 0, 3}},
		{4, []int{0, 1, 0}},
		{11, []int{0, 2, 3}},
		{12, []int{1, 0, 0}},
		{18, []int{1, 1, 2}},
		{23, []int{1, 2, 3}},
	} {
		if got := impl.OffsetOf(tensor, c.index); got != c.n {
			t.Errorf("OffsetOf(%v): %d, not %d", c.index, got, c.n)
		}
		if got, ok := impl.IndexAt(tensor, c.n); !ok || !slices.Equal(got, c.index) {
			t.Errorf("IndexAt(%d): %v, %t, not %v", c.n, got, ok, c.index)
		}
	}
	if got, ok := impl.IndexAt(impl.Tensor{}, 0); !ok || len(got) != 0 {
		t.Errorf("IndexAt without axes: %v, %t", got, ok)
	}
}

func TestAllIndices(t *testing.T) {
	t.Parallel()
	for _, c := range axesCases {
		for _, data := range [][]int{nil, {-1}, make([]int, c.size+1)} {
			tensor := c.tensor()
			tensor.Data = data
			indices := indicesOf(c.dims)
			if len(indices) != c.size {
				t.Fatalf("%v has %d indices, not %d", c.axes, len(indices), c.size)
			}
			for n, index := range indices {
				if got := impl.OffsetOf(tensor, index); got != n {
					t.Fatalf("OffsetOf(%v, %v): %d, not %d", c.axes, index, got, n)
				}
				if got, ok := impl.IndexAt(tensor, n); !ok || !slices.Equal(got, index) {
					t.Fatalf("IndexAt(%v, %d): %v, %t, not %v", c.axes, n, got, ok, index)
				}
			}
			for _, n := range notOffsets(c.size) {
				if got, ok := impl.IndexAt(tensor, n); ok || got != nil {
					t.Errorf("IndexAt(%v, %d): %v, %t", c.axes, n, got, ok)
				}
			}
			for _, index := range notIndices(c.dims) {
				if got := impl.OffsetOf(tensor, index); got != -1 {
					t.Errorf("OffsetOf(%v, %v): %d, not -1", c.axes, index, got)
				}
			}
		}
	}
}

func TestElemAt(t *testing.T) {
	pairs := impl.Tensor{Labels: []int{2, 5}, Dims: []int{2, 3}, Data: []int{0, 1, 2, 3, 4, 5, 6, 0, 1, 2, 3, 4}}
	sameList(t, "the first element", impl.ElemAt(polyRing(7, 2), pairs, []int{0, 0}), []int{0, 1})
	sameList(t, "the element at 0 2", impl.ElemAt(polyRing(7, 2), pairs, []int{0, 2}), []int{4, 5})
	sameList(t, "the element at 1 0", impl.ElemAt(polyRing(7, 2), pairs, []int{1, 0}), []int{6, 0})
	sameList(t, "the last element", impl.ElemAt(polyRing(7, 2), pairs, []int{1, 2}), []int{3, 4})
	scalar := impl.Tensor{Data: []int{1, 2, 3, 4}}
	sameList(t, "the only element", impl.ElemAt(omegaRing(17), scalar, nil), []int{1, 2, 3, 4})
	for _, r := range fullRings() {
		for i, c := range axesCases {
			elems := elemsFor(r, c.size, i)
			tensor := tensorWith(c.axes, elems)
			step := max(1, c.size/50)
			for n, index := range indicesOf(c.dims) {
				if n%step != 0 && n < c.size-3 {
					continue
				}
				if got := impl.ElemAt(r, tensor, index); !slices.Equal(got, elems[n]) {
					t.Fatalf("over %v ElemAt(%v, %v): %v, not %v", r, c.axes, index, got, elems[n])
				}
			}
			for _, index := range notIndices(c.dims) {
				if got := impl.ElemAt(r, tensor, index); got != nil {
					t.Errorf("over %v ElemAt(%v, %v): %v, not nil", r, c.axes, index, got)
				}
			}
			index := make([]int, len(c.dims))
			tensor.Data = tensor.Data[:len(tensor.Data)-1]
			if got := impl.ElemAt(r, tensor, index); got != nil {
				t.Errorf("over %v ElemAt(%v) with too few integers: %v", r, c.axes, got)
			}
		}
	}
}

func TestSetElem(t *testing.T) {
	t.Parallel()
	a := impl.Tensor{Labels: []int{5, 2}, Dims: []int{2, 3}, Data: []int{0, 1, 2, 3, 4, 5}}
	got := impl.SetElem(modRing(7), a, []int{1, 1}, []int{6})
	sameTensor(t, "a tensor with the element at 1 1 changed", got, impl.Tensor{Labels: []int{5, 2}, Dims: []int{2, 3}, Data: []int{0, 1, 2, 3, 6, 5}})
	for _, r := range fullRings() {
		width, top := impl.RingWidth(r), topOf(r)
		for i, c := range axesCases {
			elems := elemsFor(r, c.size, i)
			tensor := tensorWith(c.axes, elems)
			others := edgeElems(r, width, top)
			step := max(1, c.size/8)
			for n, index := range indicesOf(c.dims) {
				if n%step != 0 && n != c.size-1 {
					continue
				}
				for k, x := range others[max(0, len(others)-3):] {
					changed := slices.Clone(elems)
					changed[n] = x
					got := impl.SetElem(r, tensor, index, x)
					sameTensor(t, "a tensor with one element changed", got, tensorWith(c.axes, changed))
					if t.Failed() {
						t.Fatalf("over %v SetElem(%v, %v), element %d", r, c.axes, index, k)
					}
				}
			}
			index := make([]int, len(c.dims))
			for _, x := range notElems(width, top) {
				noTensor(t, "SetElem without an element", impl.SetElem(r, tensor, index, x))
			}
			for _, bad := range notIndices(c.dims) {
				noTensor(t, "SetElem without an index", impl.SetElem(r, tensor, bad, others[0]))
			}
			tensor.Data = append(tensor.Data, 0)
			noTensor(t, "SetElem with too many integers", impl.SetElem(r, tensor, index, others[0]))
		}
	}
}

func TestZeroTensor(t *testing.T) {
	for _, rc := range ringCases {
		for _, c := range axesCases {
			got, ok := impl.ZeroTensor(rc.r, c.labels, c.dims)
			want := tensorWith(c.axes, slices.Repeat([][]int{rc.zero}, c.size))
			sameTensor(t, "a tensor of zeros", got, want)
			if !ok || !impl.TensorOk(rc.r, got) {
				t.Errorf("ZeroTensor(%v, %v): %t", rc.r, c.axes, ok)
			}
		}
	}
}

func TestScalarTensor(t *testing.T) {
	for _, c := range ringCases {
		for _, x := range allElems(c.r, c.width, c.top) {
			got := impl.ScalarTensor(c.r, x)
			sameTensor(t, "a tensor without axes", got, impl.Tensor{Data: x})
			if !impl.TensorOk(c.r, got) || impl.TensorSize(got) != 1 {
				t.Errorf("ScalarTensor(%v, %v) is no tensor without axes", c.r, x)
			}
		}
		for _, x := range notElems(c.width, c.top) {
			noTensor(t, "ScalarTensor without an element", impl.ScalarTensor(c.r, x))
		}
	}
}

func TestTensorsStay(t *testing.T) {
	for _, r := range fullRings() {
		for i, c := range axesCases {
			elems := elemsFor(r, c.size, i)
			before := tensorWith(c.axes, elems)
			tensor := spareTensor(before)
			index := withSpare(make([]int, len(c.dims)), -9)
			x := withSpare(impl.OneOf(r), -9)
			changed := tensorWith(c.axes, append([][]int{impl.OneOf(r)}, elems[1:]...))
			zero := tensorWith(c.axes, slices.Repeat([][]int{impl.ZeroOf(r)}, c.size))
			for range 2 {
				// What the results share with an argument or with each other changes here.
				impl.TensorSize(tensor)
				impl.TensorOk(r, tensor)
				impl.OffsetOf(tensor, index)
				first, _ := impl.IndexAt(tensor, 0)
				sameList(t, "the first index", first, index)
				spoil(first, -5)
				elem := impl.ElemAt(r, tensor, index)
				sameList(t, "the first element", elem, elems[0])
				spoil(elem, -5)
				set := impl.SetElem(r, tensor, index, x)
				sameTensor(t, "a tensor with its first element changed", set, changed)
				spoilTensor(set)
				made, _ := impl.ZeroTensor(r, tensor.Labels, tensor.Dims)
				sameTensor(t, "a tensor of zeros", made, zero)
				spoilTensor(made)
				scalar := impl.ScalarTensor(r, x)
				sameTensor(t, "a tensor without axes", scalar, impl.Tensor{Data: impl.OneOf(r)})
				spoilTensor(scalar)
			}
			stays(t, "a part of a tensor", tensor, before)
			sameList(t, "an index", index[:len(index)+3], append(make([]int, len(index)), -9, -9, -9))
			sameList(t, "an element", x[:len(x)+3], append(impl.OneOf(r), -9, -9, -9))
		}
	}
}

func TestResultsHaveNoMemoryInCommon(t *testing.T) {
	r := boolRing()
	// Lists of the same length, which a single one could stand for.
	l := []int{1, 1}
	got, _ := impl.ZeroTensor(capRing(1), []int{1}, []int{1})
	spoil(got.Labels, 7)
	sameList(t, "the dimensions", got.Dims, []int{1})
	spoil(got.Dims, 8)
	sameList(t, "the data", got.Data, []int{0})
	set := impl.SetElem(r, impl.Tensor{Labels: l[:1], Dims: l[:1], Data: l[:1]}, []int{0}, l[:1])
	spoil(set.Labels, 7)
	sameList(t, "the dimensions", set.Dims, []int{1})
	spoil(set.Dims, 8)
	sameList(t, "the data", set.Data, []int{1})
	spoil(set.Data, 9)
	sameList(t, "the lists", l, []int{1, 1})
}

func TestInvalidTensorsStay(t *testing.T) {
	r := polyRing(7, 2)
	for _, before := range []impl.Tensor{
		{Labels: []int{3, 4}, Dims: []int{2, 1}, Data: []int{1, 2, 3, 7}},
		{Labels: []int{3, 4}, Dims: []int{2, 1}, Data: []int{1, 2, 3}},
		{Labels: []int{3, 3}, Dims: []int{2, 1}, Data: []int{1, 2, 3, 4}},
		{Labels: []int{3, 4}, Dims: []int{0, 9}, Data: []int{1, 2, 3, 4}},
		{Labels: []int{3}, Dims: []int{2, 1}, Data: []int{1, 2, 3, 4}},
	} {
		tensor := spareTensor(before)
		index, x := withSpare([]int{0, 0}, -9), withSpare([]int{5, 7}, -9)
		impl.TensorSize(tensor)
		impl.TensorOk(r, tensor)
		impl.OffsetOf(tensor, index)
		impl.IndexAt(tensor, 1)
		impl.ElemAt(r, tensor, index)
		impl.SetElem(r, tensor, index, x)
		impl.ZeroTensor(r, tensor.Labels, tensor.Dims)
		impl.ScalarTensor(r, x)
		stays(t, "a part of an invalid tensor", tensor, before)
		sameList(t, "an index", index[:5], []int{0, 0, -9, -9, -9})
		sameList(t, "an invalid element", x[:5], []int{5, 7, -9, -9, -9})
	}
}
