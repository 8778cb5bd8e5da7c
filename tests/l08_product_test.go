package tests

import (
	"math"
	"slices"
	"testing"

	"loop.example/g03211/impl"
)

// values holds a value for each label, at its number.
type values [100]int

// eachValue calls visit once for each choice of values for the labels of these
// axes, in lexicographic order.
func eachValue(a axes, visit func(at *values)) {
	var at values
	var choose func(axis int)
	choose = func(axis int) {
		if axis == len(a.labels) {
			visit(&at)
			return
		}
		for value := range a.dims[axis] {
			at[a.labels[axis]] = value
			choose(axis + 1)
		}
	}
	choose(0)
}

func axesOf(t impl.Tensor) axes { return axes{t.Labels, t.Dims} }

// reader returns what reads the element of a tensor with these values of its
// labels.
func reader(r impl.Ring, t impl.Tensor) func(at *values) []int {
	width := impl.RingWidth(r)
	return func(at *values) []int {
		n := placeIn(axesOf(t), at) * width
		return t.Data[n : n+width]
	}
}

func placeIn(a axes, at *values) int {
	n := 0
	for i, label := range a.labels {
		n = n*a.dims[i] + at[label]
	}
	return n
}

func countOf(dims []int) int {
	count := 1
	for _, d := range dims {
		count *= d
	}
	return count
}

// wantedJoin follows the text of chapter 9; it returns false if a label has
// two dimensions.
func wantedJoin(a axes, b axes) (axes, bool) {
	join := axes{slices.Clone(a.labels), slices.Clone(a.dims)}
	for i, label := range b.labels {
		k := slices.Index(a.labels, label)
		if k < 0 {
			join.labels = append(join.labels, label)
			join.dims = append(join.dims, b.dims[i])
		} else if a.dims[k] != b.dims[i] {
			return axes{}, false
		}
	}
	return join, true
}

// without returns the axes whose labels are not in the list, and those whose
// labels are.
func without(a axes, labels []int) (rest axes, others axes) {
	for i, label := range a.labels {
		side := &rest
		if slices.Contains(labels, label) {
			side = &others
		}
		side.labels = append(side.labels, label)
		side.dims = append(side.dims, a.dims[i])
	}
	return rest, others
}

// wantedSums returns the tensor with the labels that are kept, each element of
// which is the sum of what elem gives for all values of the other labels.
func wantedSums(r impl.Ring, a axes, keep []int, elem func(at *values) []int) impl.Tensor {
	_, kept := without(a, keep)
	sums := make([][]int, countOf(kept.dims))
	eachValue(a, func(at *values) {
		n := placeIn(kept, at)
		if sums[n] == nil {
			sums[n] = elem(at)
		} else {
			sums[n] = wantedSum(r, sums[n], elem(at))
		}
	})
	return tensorWith(kept, sums)
}

// wantedPair takes the tensors to have a join.
func wantedPair(r impl.Ring, a impl.Tensor, b impl.Tensor, keep []int) impl.Tensor {
	join, _ := wantedJoin(axesOf(a), axesOf(b))
	x, y := reader(r, a), reader(r, b)
	return wantedSums(r, join, keep, func(at *values) []int { return wantedProduct(r, x(at), y(at)) })
}

func wantedSumLabels(r impl.Ring, t impl.Tensor, keep []int) impl.Tensor {
	return wantedSums(r, axesOf(t), keep, reader(r, t))
}

// wantedDiagonal takes a and b to be two labels of t with the same dimension.
func wantedDiagonal(r impl.Ring, t impl.Tensor, a int, b int) impl.Tensor {
	rest, _ := without(axesOf(t), []int{b})
	var elems [][]int
	elem := reader(r, t)
	eachValue(rest, func(at *values) {
		at[b] = at[a]
		elems = append(elems, elem(at))
	})
	return tensorWith(rest, elems)
}

func pair(t *testing.T, r impl.Ring, a impl.Tensor, b impl.Tensor, keep []int) impl.Tensor {
	t.Helper()
	got, ok := impl.ContractPair(r, a, b, keep)
	if !ok || !impl.TensorOk(r, got) {
		t.Errorf("over %v ContractPair of labels %v and %v to %v: %t, or no tensor", r, a.Labels, b.Labels, keep, ok)
	}
	return got
}

func summed(t *testing.T, r impl.Ring, tensor impl.Tensor, keep []int) impl.Tensor {
	t.Helper()
	got := impl.SumLabels(r, tensor, keep)
	if !impl.TensorOk(r, got) {
		t.Errorf("over %v SumLabels of labels %v to %v is no tensor", r, tensor.Labels, keep)
	}
	return got
}

func diagonal(t *testing.T, r impl.Ring, tensor impl.Tensor, a int, b int) impl.Tensor {
	t.Helper()
	got, ok := impl.DiagonalTensor(r, tensor, a, b)
	if !ok || !impl.TensorOk(r, got) {
		t.Errorf("over %v DiagonalTensor of labels %v at %d and %d: %t, or no tensor", r, tensor.Labels, a, b, ok)
	}
	return got
}

// noPair looks at both ways round, since the conditions are the same.
func noPair(t *testing.T, r impl.Ring, a impl.Tensor, b impl.Tensor, keep []int) {
	t.Helper()
	for _, both := range [][2]impl.Tensor{{a, b}, {b, a}} {
		got, ok := impl.ContractPair(r, both[0], both[1], keep)
		noTensor(t, "ContractPair with wrong arguments", got)
		if ok {
			t.Errorf("over %v ContractPair of labels %v and %v to %v gives true", r, both[0].Labels, both[1].Labels, keep)
		}
	}
}

func noSum(t *testing.T, r impl.Ring, tensor impl.Tensor, keep []int) {
	t.Helper()
	noTensor(t, "SumLabels with wrong arguments", impl.SumLabels(r, tensor, keep))
}

func noDiagonal(t *testing.T, r impl.Ring, tensor impl.Tensor, a int, b int) {
	t.Helper()
	for _, both := range [][2]int{{a, b}, {b, a}} {
		got, ok := impl.DiagonalTensor(r, tensor, both[0], both[1])
		noTensor(t, "DiagonalTensor with wrong arguments", got)
		if ok {
			t.Errorf("over %v DiagonalTensor of labels %v at %v gives true", r, tensor.Labels, both)
		}
	}
}

func sameJoinSize(t *testing.T, a impl.Tensor, b impl.Tensor, want int) {
	t.Helper()
	if got, back := impl.JoinSize(a, b), impl.JoinSize(b, a); got != want || back != want {
		t.Errorf("JoinSize of %v and %v: %d, and %d the other way round, not %d", axesOf(a), axesOf(b), got, back, want)
	}
}

func TestConstantsOfProducts(t *testing.T) {
	sameList(t, "the limit", []int{impl.MaxWork}, []int{65536})
}

// square and cube have axes of dimension 2, line has one axis and point none.
func square(a int, b int, data ...int) impl.Tensor {
	return impl.Tensor{Labels: []int{a, b}, Dims: []int{2, 2}, Data: data}
}

func line(label int, d int, data ...int) impl.Tensor {
	return impl.Tensor{Labels: []int{label}, Dims: []int{d}, Data: data}
}

func point(data ...int) impl.Tensor { return impl.Tensor{Data: data} }

func cube(a int, b int, c int, data ...int) impl.Tensor {
	return impl.Tensor{Labels: []int{a, b, c}, Dims: []int{2, 2, 2}, Data: data}
}

func TestContractPair(t *testing.T) {
	a, b, turned := square(0, 1, 1, 2, 3, 4), square(1, 2, 5, 6, 0, 1), square(2, 1, 5, 0, 6, 1)
	r := modRing(7)
	for _, c := range []struct {
		r    impl.Ring
		a    impl.Tensor
		b    impl.Tensor
		keep []int
		want impl.Tensor
	}{
		// One label in common.
		{r, a, b, []int{0, 2}, square(0, 2, 5, 1, 1, 1)},
		{r, a, b, []int{0, 1, 2}, cube(0, 1, 2, 5, 6, 0, 2, 1, 4, 0, 4)},
		{r, a, b, []int{1}, line(1, 2, 2, 6)},
		{r, a, b, []int{2}, line(2, 2, 6, 2)},
		{r, a, b, []int{0}, line(0, 2, 6, 2)},
		{r, a, b, []int{0, 1}, square(0, 1, 4, 2, 5, 4)},
		{r, a, b, []int{1, 2}, square(1, 2, 6, 3, 0, 6)},
		{r, a, b, nil, point(1)},
		{r, a, b, []int{}, point(1)},
		// The order is that of the join, not that of keep.
		{r, a, b, []int{2, 1, 0}, cube(0, 1, 2, 5, 6, 0, 2, 1, 4, 0, 4)},
		{r, a, b, []int{2, 0}, square(0, 2, 5, 1, 1, 1)},
		{r, a, b, []int{1, 0}, square(0, 1, 4, 2, 5, 4)},
		// Other integers and repeated ones count for nothing.
		{r, a, b, []int{2, -1, 0, 2, 3, 100, 0, 99}, square(0, 2, 5, 1, 1, 1)},
		{r, a, b, []int{1, 1, 1}, line(1, 2, 2, 6)},
		{r, a, b, []int{3}, point(1)},
		{r, a, b, []int{math.MinInt, math.MaxInt, 1 << 32, -1, 100}, point(1)},
		// The same the other way round, and with the axes exchanged.
		{r, b, a, []int{0, 1, 2}, cube(1, 2, 0, 5, 1, 6, 4, 0, 0, 2, 4)},
		{r, b, a, []int{0, 2}, square(2, 0, 5, 1, 1, 1)},
		{r, a, turned, []int{0, 1, 2}, cube(0, 1, 2, 5, 6, 0, 2, 1, 4, 0, 4)},
		{r, turned, a, []int{0, 1, 2}, cube(2, 1, 0, 5, 1, 0, 0, 6, 4, 2, 4)},
		{r, turned, a, []int{0, 1}, square(1, 0, 4, 5, 2, 4)},
		// No label in common.
		{r, line(7, 3, 1, 2, 3), line(2, 2, 4, 5), []int{2, 7}, impl.Tensor{Labels: []int{7, 2}, Dims: []int{3, 2}, Data: []int{4, 5, 1, 3, 5, 1}}},
		{r, line(2, 2, 4, 5), line(7, 3, 1, 2, 3), []int{2, 7}, impl.Tensor{Labels: []int{2, 7}, Dims: []int{2, 3}, Data: []int{4, 1, 5, 5, 3, 1}}},
		{r, line(7, 3, 1, 2, 3), line(2, 2, 4, 5), []int{2}, line(2, 2, 3, 2)},
		{r, line(7, 3, 1, 2, 3), line(2, 2, 4, 5), []int{7}, line(7, 3, 2, 4, 6)},
		{r, line(7, 3, 1, 2, 3), line(2, 2, 4, 5), nil, point(5)},
		// All labels in common, in the same order and in the other one.
		{r, a, square(0, 1, 5, 6, 0, 1), []int{0, 1}, square(0, 1, 5, 5, 0, 4)},
		{r, a, square(1, 0, 5, 0, 6, 1), []int{0, 1}, square(0, 1, 5, 5, 0, 4)},
		{r, square(1, 0, 5, 0, 6, 1), a, []int{0, 1}, square(1, 0, 5, 0, 5, 4)},
		{r, a, square(0, 1, 5, 6, 0, 1), []int{1}, line(1, 2, 5, 2)},
		{r, a, square(1, 0, 5, 0, 6, 1), nil, point(0)},
		{r, a, a, []int{0, 1}, square(0, 1, 1, 4, 2, 2)},
		{r, a, a, []int{0}, line(0, 2, 5, 4)},
		{r, a, a, nil, point(2)},
		// Without axes.
		{r, point(3), point(5), nil, point(1)},
		{r, point(3), point(5), []int{0, 1}, point(1)},
		{r, point(3), a, []int{0, 1}, square(0, 1, 3, 6, 2, 5)},
		{r, a, point(3), []int{1}, line(1, 2, 5, 4)},
		{r, impl.Tensor{Labels: []int{}, Dims: []int{}, Data: []int{3}}, line(4, 1, 2), []int{4}, line(4, 1, 6)},
		// The other rings.
		{boolRing(), square(3, 1, 1, 0, 1, 1), square(1, 8, 0, 1, 1, 0), []int{3, 8}, square(3, 8, 0, 1, 1, 1)},
		{boolRing(), square(3, 1, 1, 0, 1, 1), square(1, 8, 0, 0, 1, 0), nil, point(1)},
		{capRing(9), a, b, []int{0, 2}, square(0, 2, 5, 8, 9, 9)},
		{minRing(9), a, b, []int{0, 2}, square(0, 2, 2, 3, 4, 5)},
		{minRing(4), square(0, 1, 1, 2, 3, 4), square(1, 2, 4, 4, 0, 3), []int{0, 2}, square(0, 2, 2, 4, 4, 4)},
		{minRing(9), line(0, 2, 9, 8), line(0, 2, 3, 1), nil, point(9)},
		{wideRing(9), a, b, []int{0, 2}, square(0, 2, 1, 1, 3, 3)},
		{setRing(3), a, b, []int{0, 2}, square(0, 2, 1, 0, 1, 2)},
		{polyRing(7, 2), line(0, 2, 1, 2, 3, 4), line(0, 2, 5, 6, 0, 1), []int{0}, line(0, 2, 5, 2, 0, 3)},
		{polyRing(7, 2), line(0, 2, 1, 2, 3, 4), line(0, 2, 5, 6, 0, 1), nil, point(5, 5)},
		{polyRing(7, 3), point(1, 2, 3), point(4, 5, 6), nil, point(4, 6, 0)},
		{omegaRing(17), line(4, 2, 1, 2, 3, 4, 1, 0, 0, 0), line(4, 2, 0, 1, 0, 0, 0, 0, 0, 5), nil, point(13, 1, 2, 8)},
		{modRing(1000003), line(0, 2, 1000002, 1000002), line(0, 2, 1000002, 1000001), nil, point(3)},
	} {
		sameTensor(t, "a contracted pair", pair(t, c.r, c.a, c.b, c.keep), c.want)
		if t.Failed() {
			t.Fatalf("over %v of %v and %v to %v", c.r, c.a, c.b, c.keep)
		}
	}
}

// somePairs are axes of two tensors that have a join with few elements.
var somePairs = [][2]axes{
	{{nil, nil}, {nil, nil}},
	{{nil, nil}, {[]int{4}, []int{3}}},
	{{nil, nil}, {[]int{9, 4, 0}, []int{2, 3, 4}}},
	{{[]int{0}, []int{2}}, {[]int{1}, []int{3}}},
	{{[]int{99}, []int{8}}, {[]int{0}, []int{7}}},
	{{[]int{5, 2}, []int{2, 3}}, {[]int{9, 0}, []int{4, 2}}},
	{{[]int{3}, []int{5}}, {[]int{3}, []int{5}}},
	{{[]int{3}, []int{1}}, {[]int{3}, []int{1}}},
	{{[]int{3, 7}, []int{2, 3}}, {[]int{3}, []int{2}}},
	{{[]int{3, 7}, []int{2, 3}}, {[]int{7}, []int{3}}},
	{{[]int{3, 7}, []int{2, 3}}, {[]int{7, 1}, []int{3, 4}}},
	{{[]int{3, 7}, []int{2, 3}}, {[]int{1, 7}, []int{4, 3}}},
	{{[]int{7, 3}, []int{3, 2}}, {[]int{7, 1}, []int{3, 4}}},
	{{[]int{7, 3}, []int{3, 2}}, {[]int{1, 7}, []int{4, 3}}},
	{{[]int{3, 7}, []int{2, 3}}, {[]int{3, 7}, []int{2, 3}}},
	{{[]int{3, 7}, []int{2, 3}}, {[]int{7, 3}, []int{3, 2}}},
	{{[]int{3, 7}, []int{2, 2}}, {[]int{7, 3}, []int{2, 2}}},
	{{[]int{1, 2, 3}, []int{2, 3, 2}}, {[]int{3, 4, 1}, []int{2, 3, 2}}},
	{{[]int{1, 2, 3}, []int{2, 3, 2}}, {[]int{1, 4, 3}, []int{2, 3, 2}}},
	{{[]int{8, 2, 6}, []int{3, 4, 2}}, {[]int{6, 8, 2}, []int{2, 3, 4}}},
	{{[]int{8, 2, 6}, []int{3, 4, 2}}, {[]int{2, 6, 8}, []int{4, 2, 3}}},
	{{[]int{8, 2, 6}, []int{3, 4, 2}}, {[]int{5, 6, 98, 8}, []int{2, 2, 3, 3}}},
	{{[]int{8, 2, 6}, []int{1, 4, 1}}, {[]int{5, 6, 98, 8}, []int{2, 1, 3, 1}}},
	{{labelsFrom(99, 6), slices.Repeat([]int{2}, 6)}, {labelsFrom(21, 5), slices.Repeat([]int{2}, 5)}},
	{{labelsFrom(99, 6), []int{2, 1, 2, 1, 3, 2}}, {backward(labelsFrom(99, 6)), []int{2, 3, 1, 2, 1, 2}}},
	{{labelsFrom(0, 12), []int{1, 2, 1, 3, 1, 1, 1, 1, 2, 1, 1, 1}}, {labelsFrom(0, 6), []int{1, 2, 1, 3, 1, 1}}},
}

// someKeeps returns lists of labels, of which many are in the join of axes.
func someKeeps(a axes, b axes) [][]int {
	join, _ := wantedJoin(a, b)
	own, common := without(a, b.labels)
	other, _ := without(b, a.labels)
	keeps := [][]int{nil, join.labels, a.labels, b.labels, own.labels, other.labels, common.labels, backward(join.labels), rotated(join.labels, 1)}
	keeps = append(keeps, slices.Concat(own.labels, other.labels), slices.Concat(b.labels, a.labels), []int{freeLabel, -1, 100, math.MaxInt})
	for i, label := range join.labels {
		keeps = append(keeps, []int{label}, []int{freeLabel, label, 100, label})
		keeps = append(keeps, slices.Delete(slices.Clone(join.labels), i, i+1))
		keeps = append(keeps, backward(join.labels[i:]))
	}
	return keeps
}

func TestContractManyPairs(t *testing.T) {
	t.Parallel()
	for _, r := range fullRings() {
		for i, c := range somePairs {
			for _, axes := range [][2]axes{c, {c[1], c[0]}} {
				a := tensorWith(axes[0], elemsFor(r, countOf(axes[0].dims), i))
				b := tensorWith(axes[1], elemsFor(r, countOf(axes[1].dims), 3*i+1))
				join, _ := wantedJoin(axes[0], axes[1])
				sameJoinSize(t, a, b, countOf(join.dims))
				for _, keep := range someKeeps(axes[0], axes[1]) {
					sameTensor(t, "a contracted pair", pair(t, r, a, b, keep), wantedPair(r, a, b, keep))
					if t.Failed() {
						t.Fatalf("over %v of %v and %v to %v", r, axes[0], axes[1], keep)
					}
				}
			}
		}
	}
}

// subsets returns all the lists that are a part of this one, in its order.
func subsets(l []int) [][]int {
	all := [][]int{nil}
	for _, x := range l {
		for _, s := range slices.Clone(all) {
			all = append(all, append(slices.Clone(s), x))
		}
	}
	return all
}

func TestContractPairsInEveryOrder(t *testing.T) {
	dims := map[int]int{0: 2, 1: 3, 2: 2, 3: 4, 4: 1, 5: 3}
	dimsOf := func(labels []int) []int {
		var l []int
		for _, label := range labels {
			l = append(l, dims[label])
		}
		return l
	}
	for _, r := range []impl.Ring{modRing(1000003), minRing(9), polyRing(7, 2), omegaRing(17)} {
		for i, others := range [][]int{nil, {4}, {3, 5}, {0}, {2, 3}, {2, 3, 4}, {0, 2}, {1, 2, 5}, {0, 1, 2}} {
			for _, labels := range allOrders([]int{0, 1, 2}) {
				a := tensorWith(axes{labels, dimsOf(labels)}, elemsFor(r, 12, i))
				for _, otherLabels := range allOrders(others) {
					b := tensorWith(axes{otherLabels, dimsOf(otherLabels)}, elemsFor(r, countOf(dimsOf(otherLabels)), i+5))
					join, _ := wantedJoin(axesOf(a), axesOf(b))
					for _, keep := range subsets(join.labels) {
						sameTensor(t, "a contracted pair", pair(t, r, a, b, backward(keep)), wantedPair(r, a, b, keep))
					}
					if t.Failed() {
						t.Fatalf("over %v with the orders %v and %v", r, labels, otherLabels)
					}
				}
			}
		}
	}
}

// Elements that tell where they come from show which two have met.
func TestPairsMeetAtTheSameValues(t *testing.T) {
	r := polyRing(1000003, 3)
	for _, c := range somePairs {
		a, b := c[0].tensor(), c[1].tensor()
		for n := range countOf(c[0].dims) {
			a.Data = append(a.Data, 1, n, 0)
		}
		for n := range countOf(c[1].dims) {
			b.Data = append(b.Data, 1, 0, n)
		}
		join, _ := wantedJoin(c[0], c[1])
		if len(join.labels) > 12 {
			continue
		}
		got := pair(t, r, a, b, join.labels)
		sameList(t, "the labels of a join", got.Labels, join.labels)
		sameList(t, "the dimensions of a join", got.Dims, join.dims)
		n := 0
		eachValue(join, func(at *values) {
			i, j := placeIn(c[0], at), placeIn(c[1], at)
			// The product of 1 + it and 1 + jt^2.
			if !slices.Equal(got.Data[3*n:3*n+3], []int{1, i, j}) {
				t.Fatalf("%v and %v: at %d not %d and %d meet", c[0], c[1], n, i, j)
			}
			n++
		})
	}
}

func TestContractEveryTwoElements(t *testing.T) {
	for _, c := range ringCases {
		elems := allElems(c.r, c.width, c.top)
		for shift := range elems {
			// Seven products are summed to each element.
			a, b := axes{[]int{4, 9}, []int{8, 7}}, axes{[]int{9, 4}, []int{7, 8}}
			first, second := make([][]int, 56), make([][]int, 56)
			for n := range 56 {
				first[n], second[n] = elems[n%len(elems)], elems[(n+shift)%len(elems)]
			}
			x, y := tensorWith(a, first), wantedPermutation(a, second, b.labels)
			for _, keep := range [][]int{{4}, {9, 4}, nil} {
				sameTensor(t, "a contracted pair", pair(t, c.r, x, y, keep), wantedPair(c.r, x, y, keep))
			}
			sameTensor(t, "a sum", summed(t, c.r, x, []int{9}), wantedSumLabels(c.r, x, []int{9}))
		}
		if t.Failed() {
			t.Fatalf("over %v", c.r)
		}
	}
}

func TestContractAllSmallTensors(t *testing.T) {
	t.Parallel()
	tensors := smallTensors()
	r := boolRing()
	for _, a := range tensors {
		for _, b := range tensors {
			join, ok := wantedJoin(axesOf(a), axesOf(b))
			want := -1
			if ok {
				want = countOf(join.dims)
			}
			sameJoinSize(t, a, b, want)
			for _, keep := range listsOf(2, 0, 1) {
				if !ok {
					noPair(t, r, a, b, keep)
					continue
				}
				sameTensor(t, "a contracted pair", pair(t, r, a, b, keep), wantedPair(r, a, b, keep))
			}
		}
	}
}

func TestEveryListToKeep(t *testing.T) {
	r := modRing(1000003)
	a := tensorWith(axes{[]int{3, 0}, []int{2, 3}}, elemsFor(r, 6, 1))
	b := tensorWith(axes{[]int{2, 3}, []int{2, 2}}, elemsFor(r, 4, 2))
	for _, keep := range listsOf(4, -1, 0, 2, 3, 7, 100) {
		sameTensor(t, "a contracted pair", pair(t, r, a, b, keep), wantedPair(r, a, b, keep))
		sameTensor(t, "a sum", summed(t, r, a, keep), wantedSumLabels(r, a, keep))
	}
	// A long list.
	var keep []int
	for n := range 20000 {
		keep = append(keep, n-10000)
	}
	sameTensor(t, "a contracted pair", pair(t, r, a, b, keep), wantedPair(r, a, b, []int{0, 2, 3}))
	sameTensor(t, "a sum", summed(t, r, a, keep), a)
	keep = slices.Repeat([]int{100, 0, 0, 7}, 10000)
	sameTensor(t, "a contracted pair", pair(t, r, a, b, keep), wantedPair(r, a, b, []int{0}))
	sameTensor(t, "a sum", summed(t, r, a, keep), wantedSumLabels(r, a, []int{0}))
}

// Over RCap with the greatest P, sums of ones count what has been summed.
func ones(a axes) impl.Tensor {
	t := a.tensor()
	t.Data = slices.Repeat([]int{1}, countOf(a.dims))
	return t
}

func sized(first int, dims ...int) impl.Tensor { return ones(axes{labelsFrom(first, len(dims)), dims}) }

// sharing is like sized, but with the labels as said.
func sharing(labels []int, dims ...int) impl.Tensor { return ones(axes{labels, dims}) }

func TestWorkLimit(t *testing.T) {
	r := capRing(1000000)
	for _, c := range []struct {
		a    impl.Tensor
		b    impl.Tensor
		size int
	}{
		{sized(0, 8, 8, 8), sized(1, 2, 8, 8), 65536},
		{sized(0, 8, 8, 8, 8), sized(1, 4, 4), 65536},
		{sized(0, 8, 8, 8, 8), sized(1, 8, 2), 65536},
		{sized(0, 8, 8, 4), sized(1, 8, 8, 4), 65536},
		{sized(0, slices.Repeat([]int{2}, 8)...), sized(1, slices.Repeat([]int{2}, 8)...), 65536},
		{sized(0, slices.Repeat([]int{2}, 12)...), sized(1, 2, 2, 2, 2), 65536},
		{sized(0, slices.Repeat([]int{2}, 12)...), sized(1, 1, 2, 2, 1, 2, 2, 1, 1), 65536},
		{sharing([]int{1, 2, 3, 4, 5}, 8, 8, 4, 4, 4), sharing([]int{6, 2, 7, 1}, 4, 8, 4, 8), 65536},
		{sharing([]int{1, 2, 3, 4}, 8, 8, 8, 8), sharing([]int{1, 2, 3, 4, 5}, 1, 1, 1, 1, 8), -1},
		{sharing([]int{1, 2, 3, 4}, 8, 8, 8, 8), sharing([]int{4, 5, 6}, 8, 4, 4), 65536},
		{sharing([]int{1, 2, 3, 4}, 8, 8, 8, 8), sharing([]int{5, 4, 6, 3}, 2, 8, 8, 8), 65536},
		{sharing([]int{1, 2, 3, 4}, 8, 8, 8, 8), sharing([]int{5, 4, 3, 2}, 8, 8, 8, 8), 32768},
		{sharing([]int{1, 2, 3, 4}, 8, 8, 8, 8), sharing([]int{4, 3, 2, 1}, 8, 8, 8, 8), 4096},
		{sized(0, 5, 5, 5, 5), sized(1, 2, 7, 7), 61250},
		{sized(0, 6, 6, 6, 6), sized(1, 2, 5, 5), 64800},
		{sized(0, 8, 8, 8), sized(1, 2, 7, 8), 57344},
		{sized(0, 8, 8, 8, 8), sized(1, 3, 5), 61440},
		// More than that.
		{sized(0, 3, 3, 3, 3, 3, 3, 3), sized(1, 3, 2, 5), 65610},
		{sized(0, 5, 5, 5, 5), sized(1, 5, 3, 7), 65625},
		{sized(0, 8, 8, 8), sized(1, 3, 8, 8), 98304},
		{sized(0, 8, 8, 8, 8), sized(1, 4, 5), 81920},
		{sized(0, 8, 8, 8, 8), sized(1, 3, 6), 73728},
		{sized(0, slices.Repeat([]int{2}, 12)...), sized(1, 2, 2, 2, 2, 2), 131072},
		{sized(0, slices.Repeat([]int{2}, 9)...), sized(1, slices.Repeat([]int{2}, 8)...), 131072},
		{sized(0, 8, 8, 8, 8), sized(1, 8, 8, 8, 8), 16777216},
		{sized(0, slices.Repeat([]int{2}, 12)...), sized(1, slices.Repeat([]int{2}, 12)...), 16777216},
		{sharing([]int{1, 2, 3, 4}, 8, 8, 8, 8), sharing([]int{5, 4, 6, 3}, 8, 8, 8, 8), 262144},
		{sharing([]int{1, 2, 3, 4}, 8, 8, 8, 8), sharing([]int{4, 5, 6}, 8, 3, 6), 73728},
		{sharing([]int{1, 2, 3, 4, 5}, 8, 8, 4, 4, 4), sharing([]int{6, 2, 7, 1}, 4, 8, 5, 8), 81920},
	} {
		if !impl.TensorOk(r, c.a) || !impl.TensorOk(r, c.b) {
			t.Fatalf("%v or %v are not axes of a tensor", axesOf(c.a), axesOf(c.b))
		}
		sameJoinSize(t, c.a, c.b, min(c.size, 65537))
		first, last := c.a.Labels[:1], c.b.Labels[len(c.b.Labels)-1:]
		for _, keep := range [][]int{nil, first, last, slices.Concat(last, first), {freeLabel}} {
			if c.size < 0 || c.size > 65536 {
				noPair(t, r, c.a, c.b, keep)
				continue
			}
			for _, both := range [][2]impl.Tensor{{c.a, c.b}, {c.b, c.a}} {
				got := pair(t, r, both[0], both[1], keep)
				want := slices.Repeat([]int{c.size / countOf(got.Dims)}, countOf(got.Dims))
				sameTensor(t, "a great sum", got, impl.Tensor{Labels: got.Labels, Dims: got.Dims, Data: want})
			}
		}
	}
}

// The greatest joins, with elements that differ.
func TestContractGreatPairs(t *testing.T) {
	for i, r := range []impl.Ring{boolRing(), modRing(1000003), capRing(1000000), minRing(1000000), wideRing(1000000), setRing(20), polyRing(1000003, 6), omegaRing(1000003)} {
		for _, c := range []struct {
			a    axes
			b    axes
			keep []int
		}{
			{axes{[]int{5, 9, 2, 7}, []int{8, 8, 8, 8}}, axes{[]int{1, 7, 0}, []int{4, 8, 4}}, []int{1, 9, 0}},
			{axes{[]int{5, 9, 2, 7}, []int{8, 8, 8, 8}}, axes{[]int{9, 7, 5, 1, 2}, []int{8, 8, 8, 1, 8}}, []int{1, 7, 2, 5, 9}},
			{axes{[]int{5, 9, 2}, []int{8, 8, 8}}, axes{[]int{1, 7, 0}, []int{8, 2, 8}}, []int{7, 2, 1, 0}},
			{axes{labelsFrom(3, 12), slices.Repeat([]int{2}, 12)}, axes{labelsFrom(40, 12), slices.Repeat([]int{2}, 12)}, labelsFrom(3, 12)},
		} {
			a := tensorWith(c.a, elemsFor(r, 4096, i)[:countOf(c.a.dims)])
			b := tensorWith(c.b, elemsFor(r, 4096, 3*i+1)[:countOf(c.b.dims)])
			sameTensor(t, "a great pair", pair(t, r, a, b, c.keep), wantedPair(r, a, b, c.keep))
			if t.Failed() {
				t.Fatalf("over %v of %v and %v", r, c.a, c.b)
			}
		}
	}
}

func TestResultLimits(t *testing.T) {
	r := capRing(1000000)
	unit := func(first int, n int) impl.Tensor { return sized(first, slices.Repeat([]int{1}, n)...) }
	// labelsFrom continues with the next labels from here.
	next := func(n int) int { return labelsFrom(0, n+1)[n] }
	for _, c := range []struct {
		a    impl.Tensor
		b    impl.Tensor
		keep []int
		ok   bool
	}{
		{sized(0, 8, 8), sized(1, 8, 8), []int{0, 37, 1, 38}, true},
		{sized(0, 8, 8), sized(1, 8, 8, 2), []int{0, 37, 1, 38}, true},
		{sized(0, 8, 8), sized(1, 8, 8, 2), []int{0, 37, 1, 38, 75}, false},
		{sized(0, 8, 8), sized(1, 8, 8, 2), []int{0, 37, 1, 75}, true},
		{sized(0, 8, 8), sized(1, 8, 8, 1), []int{0, 37, 1, 38, 75}, true},
		{sized(0, 7, 7, 7), sized(1, 3, 4), []int{0, 37, 74, 1, 38}, false},
		{sized(0, 7, 7, 7), sized(1, 3, 4), []int{0, 37, 74, 1}, true},
		{sized(0, 7, 7), sized(1, 7, 3, 4), []int{0, 37, 1, 38, 75}, false},
		{sized(0, 5, 6, 8), sized(1, 4, 4), []int{0, 37, 74, 1, 38}, true},
		{sized(0, 5, 7, 8), sized(1, 5, 3), []int{0, 37, 74, 1, 38}, false},
		{sized(0, 5, 7, 8), sized(1, 7, 2), []int{0, 37, 74, 1, 38}, true},
		{sized(0, 8, 8, 8, 8), sized(1, 2), []int{0, 37, 74, 11}, true},
		{sized(0, 8, 8, 8, 8), sized(1, 2), []int{0, 37, 74, 11, 1}, false},
		{sharing([]int{1, 2, 3, 4}, 8, 8, 8, 8), sharing([]int{4, 5}, 8, 2), []int{1, 2, 3, 4, 5}, false},
		{sharing([]int{1, 2, 3, 4}, 8, 8, 8, 8), sharing([]int{4, 5}, 8, 8), []int{1, 2, 3, 5}, true},
		{sharing([]int{1, 2, 3, 4}, 8, 8, 8, 8), sharing([]int{4, 3}, 8, 8), []int{1, 2, 3, 4}, true},
		// Ranks.
		{unit(0, 12), unit(next(12), 12), labelsFrom(0, 12), true},
		{unit(0, 12), unit(next(12), 12), labelsFrom(0, 13), false},
		{unit(0, 12), unit(next(12), 12), labelsFrom(next(12), 12), true},
		{unit(0, 12), unit(next(12), 12), labelsFrom(next(6), 12), true},
		{unit(0, 12), unit(next(12), 12), labelsFrom(next(6), 13), false},
		{unit(0, 12), unit(next(12), 12), labelsFrom(0, 24), false},
		{unit(0, 12), unit(next(12), 12), nil, true},
		{unit(0, 12), unit(0, 12), labelsFrom(0, 12), true},
		{unit(0, 12), unit(next(11), 12), labelsFrom(1, 12), true},
		{unit(0, 12), unit(next(12), 1), labelsFrom(0, 13), false},
		{unit(0, 12), unit(next(12), 1), labelsFrom(0, 12), true},
		{unit(0, 12), unit(next(11), 2), labelsFrom(0, 13), false},
		{unit(0, 11), unit(next(11), 1), labelsFrom(0, 12), true},
		{unit(0, 6), unit(next(6), 6), labelsFrom(0, 12), true},
		{unit(0, 6), unit(next(6), 7), labelsFrom(0, 13), false},
		{unit(0, 6), unit(next(6), 7), labelsFrom(0, 12), true},
		{unit(0, 12), impl.Tensor{Data: []int{1}}, labelsFrom(0, 12), true},
	} {
		if size := impl.JoinSize(c.a, c.b); size < 1 || size > 65536 {
			t.Fatalf("%v and %v have no join that is small enough", axesOf(c.a), axesOf(c.b))
		}
		if !c.ok {
			noPair(t, r, c.a, c.b, c.keep)
			noPair(t, r, c.a, c.b, slices.Concat(backward(c.keep), []int{-1, 100}))
			continue
		}
		sameTensor(t, "a great result", pair(t, r, c.a, c.b, c.keep), wantedPair(r, c.a, c.b, c.keep))
		sameTensor(t, "a great result", pair(t, r, c.b, c.a, c.keep), wantedPair(r, c.b, c.a, c.keep))
	}
}

func TestOneLabelWithTwoDimensions(t *testing.T) {
	for _, r := range []impl.Ring{boolRing(), minRing(9), polyRing(7, 2), omegaRing(17)} {
		for i, c := range somePairs {
			for k, label := range c[0].labels {
				at := slices.Index(c[1].labels, label)
				if at < 0 {
					continue
				}
				for _, d := range []int{1, c[0].dims[k] - 1, c[0].dims[k] + 1, 8} {
					if d < 1 || d > 8 || d == c[0].dims[k] {
						continue
					}
					other := axes{c[1].labels, slices.Clone(c[1].dims)}
					other.dims[at] = d
					a := tensorWith(c[0], elemsFor(r, countOf(c[0].dims), i))
					b := tensorWith(other, elemsFor(r, countOf(other.dims), i))
					sameJoinSize(t, a, b, -1)
					for _, keep := range someKeeps(c[0], c[1]) {
						noPair(t, r, a, b, keep)
					}
				}
			}
		}
	}
	// As many integers in both, and the label in the same place or not.
	r := boolRing()
	six := []int{1, 0, 1, 1, 0, 1}
	tensor := func(labels []int, dims ...int) impl.Tensor { return impl.Tensor{Labels: labels, Dims: dims, Data: six} }
	for _, b := range []impl.Tensor{
		tensor([]int{2, 5}, 3, 2), tensor([]int{5, 2}, 2, 3), tensor([]int{2, 9}, 3, 2), tensor([]int{9, 2}, 2, 3), tensor([]int{2}, 6), tensor([]int{5}, 6), tensor([]int{2, 5, 9}, 2, 1, 3),
	} {
		noPair(t, r, tensor([]int{2, 5}, 2, 3), b, []int{2, 5})
		sameJoinSize(t, tensor([]int{2, 5}, 2, 3), b, -1)
	}
	// Two dimensions count before the size of the join.
	a, b := sized(0, 8, 8, 8, 8), sized(11, 7, 8, 8, 8)
	noPair(t, r, a, b, nil)
	sameJoinSize(t, a, b, -1)
}

func TestJoinSize(t *testing.T) {
	for i, a := range axesCases {
		for k, b := range axesCases {
			want := -1
			if join, ok := wantedJoin(a.axes, b.axes); ok {
				want = min(countOf(join.dims), 65537)
			}
			// Data does not count.
			for n, data := range [][]int{nil, {}, {0}, {-1, math.MaxInt}, make([]int, a.size)} {
				x, y := a.tensor(), b.tensor()
				x.Data, y.Data = data, [][]int{nil, {-1}, make([]int, 5000)}[(i+k+n)%3]
				sameJoinSize(t, x, y, want)
			}
		}
	}
	for _, c := range somePairs {
		join, _ := wantedJoin(c[0], c[1])
		sameJoinSize(t, c[0].tensor(), c[1].tensor(), countOf(join.dims))
	}
	sameJoinSize(t, impl.Tensor{}, impl.Tensor{}, 1)
	sameJoinSize(t, impl.Tensor{}, impl.Tensor{Labels: []int{7}, Dims: []int{3}}, 3)
}

func TestNoJoinSize(t *testing.T) {
	for i, a := range notAxes {
		for _, data := range [][]int{nil, {0}, dataOf(a.dims)} {
			tensor := a.tensor()
			tensor.Data = data
			sameJoinSize(t, tensor, tensor, -1)
			sameJoinSize(t, tensor, notAxes[(i+1)%len(notAxes)].tensor(), -1)
			for _, c := range axesCases {
				sameJoinSize(t, tensor, c.tensor(), -1)
			}
		}
	}
}

func TestSumLabels(t *testing.T) {
	box := impl.Tensor{Labels: []int{4, 1, 7}, Dims: []int{2, 3, 2}, Data: []int{0, 1, 2, 3, 4, 5, 6, 7, 8, 9, 10, 11}}
	r := modRing(1000003)
	for _, c := range []struct {
		r    impl.Ring
		t    impl.Tensor
		keep []int
		want impl.Tensor
	}{
		{modRing(7), square(0, 1, 1, 2, 3, 4), []int{1}, line(1, 2, 4, 6)},
		{modRing(7), square(0, 1, 1, 2, 3, 4), []int{0}, line(0, 2, 3, 0)},
		{modRing(7), square(0, 1, 1, 2, 3, 4), nil, point(3)},
		{r, box, []int{4, 1, 7}, box},
		{r, box, []int{7, 1, 4, 1, 8}, box},
		{r, box, []int{7, 4}, impl.Tensor{Labels: []int{4, 7}, Dims: []int{2, 2}, Data: []int{6, 9, 24, 27}}},
		{r, box, []int{4, 1}, impl.Tensor{Labels: []int{4, 1}, Dims: []int{2, 3}, Data: []int{1, 5, 9, 13, 17, 21}}},
		{r, box, []int{7, 1}, impl.Tensor{Labels: []int{1, 7}, Dims: []int{3, 2}, Data: []int{6, 8, 10, 12, 14, 16}}},
		{r, box, []int{1}, line(1, 3, 14, 22, 30)},
		{r, box, []int{4, 4, 5}, line(4, 2, 15, 51)},
		{r, box, []int{7}, line(7, 2, 30, 36)},
		{r, box, nil, point(66)},
		{r, box, []int{}, point(66)},
		{r, box, []int{0, 2, 99, 100, -1, -4, math.MinInt, math.MaxInt, 4 + 1<<32}, point(66)},
		{r, point(5), nil, point(5)},
		{r, point(5), []int{0, 5, 7}, point(5)},
		{r, line(4, 1, 8), nil, point(8)},
		{boolRing(), square(3, 5, 0, 0, 0, 1), []int{3}, line(3, 2, 0, 1)},
		{boolRing(), square(3, 5, 0, 0, 1, 1), []int{5}, line(5, 2, 1, 1)},
		{capRing(9), square(3, 5, 2, 6, 7, 8), []int{3}, line(3, 2, 8, 9)},
		{minRing(9), square(3, 5, 2, 6, 9, 8), []int{3}, line(3, 2, 2, 8)},
		{minRing(9), line(3, 2, 9, 9), nil, point(9)},
		{wideRing(9), square(3, 5, 2, 6, 0, 8), []int{5}, line(5, 2, 2, 8)},
		{setRing(3), square(3, 5, 2, 6, 1, 0), []int{5}, line(5, 2, 3, 6)},
		{polyRing(7, 2), square(3, 5, 1, 2, 3, 4, 5, 6, 0, 1), []int{5}, line(5, 2, 6, 1, 3, 5)},
		{polyRing(7, 2), square(3, 5, 1, 2, 3, 4, 5, 6, 0, 1), []int{3}, line(3, 2, 4, 6, 5, 0)},
		{omegaRing(17), line(3, 2, 1, 2, 3, 4, 16, 0, 14, 14), nil, point(0, 2, 0, 1)},
	} {
		sameTensor(t, "a sum", summed(t, c.r, c.t, c.keep), c.want)
		if t.Failed() {
			t.Fatalf("over %v of %v to %v", c.r, c.t, c.keep)
		}
	}
}

func TestSumManyTensors(t *testing.T) {
	t.Parallel()
	for _, r := range fullRings() {
		for i, c := range axesCases {
			tensor := tensorWith(c.axes, elemsFor(r, c.size, i))
			keeps := someKeeps(c.axes, axes{})
			if c.size > 100 {
				// Every list comes over some of the rings.
				n := 3 * (i + r.N + r.Kind) % len(keeps)
				keeps = [][]int{nil, keeps[n], keeps[(n+1)%len(keeps)], keeps[(n+2)%len(keeps)]}
			}
			for _, keep := range keeps {
				got := summed(t, r, tensor, keep)
				sameTensor(t, "a sum", got, wantedSumLabels(r, tensor, keep))
				one := impl.ScalarTensor(r, impl.OneOf(r))
				sameTensor(t, "a tensor contracted with one", pair(t, r, tensor, one, keep), got)
				sameTensor(t, "one contracted with a tensor", pair(t, r, one, tensor, keep), got)
				if t.Failed() {
					t.Fatalf("over %v of %v to %v", r, c.axes, keep)
				}
			}
		}
	}
}

func TestDiagonalTensor(t *testing.T) {
	r := modRing(1000003)
	nine := impl.Tensor{Labels: []int{5, 2}, Dims: []int{3, 3}, Data: []int{0, 1, 2, 3, 4, 5, 6, 7, 8}}
	box := impl.Tensor{Labels: []int{4, 1, 7}, Dims: []int{2, 3, 2}, Data: []int{0, 1, 2, 3, 4, 5, 6, 7, 8, 9, 10, 11}}
	c := cube(4, 1, 7, 0, 1, 2, 3, 4, 5, 6, 7)
	sameTensor(t, "a diagonal", diagonal(t, modRing(7), square(0, 1, 1, 2, 3, 4), 0, 1), line(0, 2, 1, 4))
	sameTensor(t, "a diagonal", diagonal(t, modRing(7), square(0, 1, 1, 2, 3, 4), 1, 0), line(1, 2, 1, 4))
	sameTensor(t, "a diagonal", diagonal(t, r, nine, 5, 2), line(5, 3, 0, 4, 8))
	sameTensor(t, "a diagonal", diagonal(t, r, nine, 2, 5), line(2, 3, 0, 4, 8))
	// The axis of b goes, where that of a is.
	sameTensor(t, "a diagonal", diagonal(t, r, box, 4, 7), impl.Tensor{Labels: []int{4, 1}, Dims: []int{2, 3}, Data: []int{0, 2, 4, 7, 9, 11}})
	sameTensor(t, "a diagonal", diagonal(t, r, box, 7, 4), impl.Tensor{Labels: []int{1, 7}, Dims: []int{3, 2}, Data: []int{0, 7, 2, 9, 4, 11}})
	sameTensor(t, "a diagonal", diagonal(t, r, c, 4, 1), square(4, 7, 0, 1, 6, 7))
	sameTensor(t, "a diagonal", diagonal(t, r, c, 1, 4), square(1, 7, 0, 1, 6, 7))
	sameTensor(t, "a diagonal", diagonal(t, r, c, 1, 7), square(4, 1, 0, 3, 4, 7))
	sameTensor(t, "a diagonal", diagonal(t, r, c, 7, 1), square(4, 7, 0, 3, 4, 7))
	sameTensor(t, "a diagonal", diagonal(t, r, c, 4, 7), square(4, 1, 0, 2, 5, 7))
	sameTensor(t, "a diagonal", diagonal(t, r, c, 7, 4), square(1, 7, 0, 5, 2, 7))
	sameTensor(t, "a diagonal of pairs", diagonal(t, polyRing(7, 2), square(3, 5, 1, 2, 3, 4, 5, 6, 0, 1), 3, 5), line(3, 2, 1, 2, 0, 1))
	small := impl.Tensor{Labels: []int{99, 0}, Dims: []int{1, 1}, Data: []int{6}}
	sameTensor(t, "a diagonal", diagonal(t, r, small, 99, 0), line(99, 1, 6))
	sameTensor(t, "a diagonal", diagonal(t, r, small, 0, 99), line(0, 1, 6))
	for _, labels := range [][2]int{{4, 1}, {7, 1}, {4, 4}, {1, 1}, {7, 7}, {4, 0}, {0, 1}, {2, 3}, {-1, 4}, {100, 7}, {-1, -1}, {4, 4 + 1<<32}, {math.MinInt, 4}, {4, math.MaxInt}} {
		noDiagonal(t, r, box, labels[0], labels[1])
	}
	noDiagonal(t, r, line(3, 2, 5, 6), 3, 3)
	noDiagonal(t, r, line(3, 2, 5, 6), 3, 4)
	noDiagonal(t, r, point(5), 0, 0)
	noDiagonal(t, r, point(5), 0, 1)
}

func TestDiagonalsOfManyTensors(t *testing.T) {
	for _, r := range fullRings() {
		for i, c := range axesCases {
			elems := elemsFor(r, c.size, i)
			tensor := tensorWith(c.axes, elems)
			for k, a := range c.labels {
				for n, b := range c.labels {
					if c.size > 1000 && (k+n+r.Kind+r.N)%6 != 0 {
						// Every pair comes over some of the rings.
						continue
					}
					if a == b || c.dims[k] != c.dims[n] {
						noDiagonal(t, r, tensor, a, b)
						continue
					}
					sameTensor(t, "a diagonal", diagonal(t, r, tensor, a, b), wantedDiagonal(r, tensor, a, b))
				}
				for _, other := range []int{freeLabel, -1, 100, a + 100, a - 100, a + 1<<32} {
					noDiagonal(t, r, tensor, a, other)
				}
			}
			noDiagonal(t, r, tensor, freeLabel, freeLabel)
			noDiagonal(t, r, tensor, freeLabel, freeLabel+1)
			noDiagonal(t, r, tensor, -1, 100)
			if t.Failed() {
				t.Fatalf("over %v of %v", r, c.axes)
			}
		}
	}
}

// All the places that two axes of four can have, with every dimension that
// makes a difference.
func TestDiagonalsAtEveryTwoPlaces(t *testing.T) {
	labels := []int{8, 3, 99, 0}
	r := polyRing(7, 2)
	for _, dims := range listsOf(4, 1, 2, 3) {
		if len(dims) != 4 {
			continue
		}
		tensor := tensorWith(axes{labels, dims}, elemsFor(r, countOf(dims), 1))
		for k, a := range labels {
			for n, b := range labels {
				if k == n || dims[k] != dims[n] {
					noDiagonal(t, r, tensor, a, b)
					continue
				}
				sameTensor(t, "a diagonal", diagonal(t, r, tensor, a, b), wantedDiagonal(r, tensor, a, b))
			}
		}
	}
}

// noProducts looks for the answers of all the functions to arguments among
// which the ring or the tensor is not valid; the other tensor has suitable
// axes, if there are any.
func noProducts(t *testing.T, r impl.Ring, tensor impl.Tensor, other impl.Tensor) {
	t.Helper()
	for _, keep := range [][]int{nil, tensor.Labels} {
		noPair(t, r, tensor, tensor, keep)
		noPair(t, r, tensor, other, keep)
		noPair(t, r, tensor, impl.Tensor{Data: impl.OneOf(r)}, keep)
		noPair(t, r, tensor, impl.Tensor{Labels: []int{freeLabel}, Dims: []int{1}, Data: impl.OneOf(r)}, keep)
		noPair(t, r, tensor, impl.Tensor{}, keep)
		noSum(t, r, tensor, keep)
	}
	for _, labels := range [][2]int{{0, 1}, {0, 0}, {freeLabel, 0}, {-1, 100}} {
		noDiagonal(t, r, tensor, labels[0], labels[1])
	}
	for i := range min(len(tensor.Labels), 4) {
		for k := range i + 1 {
			noDiagonal(t, r, tensor, tensor.Labels[i], tensor.Labels[k])
		}
	}
}

func TestNoProductsOfWrongTensors(t *testing.T) {
	t.Parallel()
	for _, a := range notAxes {
		for _, data := range [][]int{nil, {0}, {0, 0}, dataOf(a.dims)} {
			tensor := impl.Tensor{Labels: a.labels, Dims: a.dims, Data: data}
			noProducts(t, boolRing(), tensor, impl.Tensor{Labels: a.labels, Dims: slices.Repeat([]int{1}, len(a.labels)), Data: []int{1}})
			noProducts(t, polyRing(7, 1), tensor, tensor)
		}
	}
	pairs := []axes{{[]int{3, 5}, []int{2, 2}}, {[]int{5, 3, 1}, []int{1, 2, 1}}}
	for _, c := range axesCases[:15] {
		pairs = append(pairs, c.axes)
	}
	for _, r := range fullRings() {
		for i, a := range pairs {
			tensor := tensorWith(a, elemsFor(r, countOf(a.dims), i))
			for _, wrong := range withWrongData(r, tensor) {
				noProducts(t, r, wrong, tensor)
				sameJoinSize(t, wrong, tensor, impl.TensorSize(tensor))
			}
		}
	}
	// As many integers, but elements of another width or too great ones.
	six := impl.Tensor{Labels: []int{4}, Dims: []int{3}, Data: []int{1, 2, 3, 4, 5, 6}}
	noProducts(t, polyRing(7, 3), six, impl.Tensor{Labels: []int{4}, Dims: []int{2}, Data: []int{1, 2, 3, 4, 5, 6}})
	noProducts(t, polyRing(5, 2), six, impl.Tensor{Labels: []int{4}, Dims: []int{3}, Data: []int{1, 2, 3, 4, 0, 1}})
	noProducts(t, capRing(9), six, impl.Tensor{Labels: []int{4}, Dims: []int{3}, Data: []int{1, 2, 3}})
}

func TestNoProductsOverInvalidRings(t *testing.T) {
	t.Parallel()
	for _, r := range notRings {
		for _, c := range axesCases[:12] {
			for _, data := range [][]int{nil, make([]int, c.size), make([]int, 4*c.size), make([]int, max(0, min(r.N, 9))*c.size)} {
				tensor := impl.Tensor{Labels: c.labels, Dims: c.dims, Data: data}
				noProducts(t, r, tensor, tensor)
			}
		}
		noProducts(t, r, square(3, 5, 0, 0, 0, 0), line(3, 2, 0, 0))
	}
}

// These tensors are contracted in every order with the same result.
func TestContractThreeInEveryOrder(t *testing.T) {
	t.Parallel()
	cases := [][3]axes{
		{{[]int{0, 1}, []int{2, 3}}, {[]int{1, 2}, []int{3, 2}}, {[]int{2, 3}, []int{2, 4}}},
		{{[]int{0, 1}, []int{2, 3}}, {[]int{1, 2}, []int{3, 2}}, {[]int{0, 2}, []int{2, 2}}},
		{{[]int{0, 1, 2}, []int{2, 3, 2}}, {[]int{2, 1}, []int{2, 3}}, {[]int{1, 3, 2}, []int{3, 2, 2}}},
		{{[]int{0}, []int{4}}, {[]int{1}, []int{3}}, {nil, nil}},
		{{[]int{0, 5}, []int{4, 1}}, {[]int{5, 0}, []int{1, 4}}, {[]int{0, 5}, []int{4, 1}}},
	}
	for _, r := range fullRings() {
		for i, c := range cases {
			var tensors [3]impl.Tensor
			for k, a := range c {
				tensors[k] = tensorWith(a, elemsFor(r, countOf(a.dims), i+5*k))
			}
			join, _ := wantedJoin(c[0], c[1])
			join, _ = wantedJoin(join, c[2])
			for _, open := range subsets(join.labels) {
				want := pair(t, r, wantedPair(r, tensors[0], tensors[1], join.labels), tensors[2], open)
				for _, order := range allOrders([]int{0, 1, 2}) {
					a, b, d := tensors[order[0]], tensors[order[1]], tensors[order[2]]
					// Labels that the third one does not have are summed out at once.
					got := pair(t, r, pair(t, r, a, b, slices.Concat(open, d.Labels)), d, open)
					same(t, r, got, want, true)
					got = pair(t, r, d, pair(t, r, a, b, join.labels), open)
					same(t, r, got, want, true)
					got = summed(t, r, pair(t, r, pair(t, r, a, b, join.labels), d, join.labels), open)
					same(t, r, got, want, true)
				}
				if t.Failed() {
					t.Fatalf("over %v of %v to %v", r, c, open)
				}
			}
		}
	}
}

func TestLawsOfProducts(t *testing.T) {
	t.Parallel()
	for _, r := range fullRings() {
		for i, c := range somePairs {
			a := tensorWith(c[0], elemsFor(r, countOf(c[0].dims), i))
			b := tensorWith(c[1], elemsFor(r, countOf(c[1].dims), 3*i+1))
			other := wantedPermutation(c[1], elemsFor(r, countOf(c[1].dims), 2*i+5), backward(c[1].labels))
			x := elemsFor(r, 4, i)[3]
			for k, keep := range someKeeps(c[0], c[1]) {
				if (i+k+r.Kind+r.N)%4 != 0 {
					// Every list comes over some of the rings.
					continue
				}
				ab := pair(t, r, a, b, keep)
				same(t, r, ab, pair(t, r, b, a, keep), true)
				same(t, r, pair(t, r, a, permute(t, r, b, rotated(b.Labels, 1)), keep), ab, true)
				sameTensor(t, "a pair with a sum", pair(t, r, a, plusTensors(t, r, b, other), keep), plusTensors(t, r, ab, pair(t, r, a, other, keep)))
				sameTensor(t, "a pair with a scaled tensor", pair(t, r, a, scaled(t, r, b, x), keep), scaled(t, r, ab, x))
				sameTensor(t, "a sum of a pair", summed(t, r, ab, keep[:len(keep)/2]), pair(t, r, a, b, keep[:len(keep)/2]))
				double := summed(t, r, plusTensors(t, r, b, other), keep)
				sameTensor(t, "a sum of sums", double, plusTensors(t, r, summed(t, r, b, keep), summed(t, r, other, keep)))
			}
			sameTensor(t, "a pair with the same labels", pair(t, r, b, other, b.Labels), timesTensors(t, r, b, other))
			sameTensor(t, "a tensor with itself", pair(t, r, a, a, a.Labels), timesTensors(t, r, a, a))
			if t.Failed() {
				t.Fatalf("over %v of %v and %v", r, c[0], c[1])
			}
		}
	}
}

func TestDiagonalsAndPairs(t *testing.T) {
	for _, r := range fullRings() {
		d := 3
		delta, _ := impl.ZeroTensor(r, []int{6, 2}, []int{d, d})
		for value := range d {
			delta = impl.SetElem(r, delta, []int{value, value}, impl.OneOf(r))
		}
		a := tensorWith(axes{[]int{6, 9, 2, 0}, []int{d, 2, d, d}}, elemsFor(r, 54, 1))
		sameTensor(t, "a diagonal by a pair", diagonal(t, r, a, 6, 2), pair(t, r, a, delta, []int{6, 9, 0}))
		sameTensor(t, "a diagonal by a pair", diagonal(t, r, a, 2, 6), pair(t, r, a, delta, []int{9, 2, 0}))
		// Both ways to one axis for three.
		same(t, r, diagonal(t, r, diagonal(t, r, a, 6, 2), 6, 0), diagonal(t, r, diagonal(t, r, a, 2, 0), 6, 2), true)
		trace := summed(t, r, diagonal(t, r, a, 2, 0), []int{9, 6})
		sameTensor(t, "a trace", trace, summed(t, r, diagonal(t, r, a, 0, 2), []int{6, 9}))
	}
}

func TestMapsKeepProducts(t *testing.T) {
	for k, c := range slices.Concat(smallHoms(), greatHoms()) {
		for i, axes := range somePairs {
			if (i+k)%5 != 0 {
				continue
			}
			a := tensorWith(axes[0], elemsFor(c.from, countOf(axes[0].dims), i))
			b := tensorWith(axes[1], elemsFor(c.from, countOf(axes[1].dims), 3*i+k))
			one, two := mapped(t, c, a), mapped(t, c, b)
			for _, keep := range [][]int{nil, axes[0].labels, slices.Concat(b.Labels, a.Labels)} {
				sameTensor(t, "an image of a pair", mapped(t, c, pair(t, c.from, a, b, keep)), pair(t, c.to, one, two, keep))
				sameTensor(t, "an image of a sum", mapped(t, c, summed(t, c.from, b, keep)), summed(t, c.to, two, keep))
			}
			if t.Failed() {
				t.Fatalf("%v of %v and %v", c, axes[0], axes[1])
			}
		}
	}
}

func TestArgumentsOfProductsStay(t *testing.T) {
	for _, r := range fullRings() {
		for i, c := range somePairs {
			before := tensorWith(c[0], elemsFor(r, countOf(c[0].dims), i))
			otherBefore := tensorWith(c[1], elemsFor(r, countOf(c[1].dims), 3*i+1))
			a, b := spareTensor(before), spareTensor(otherBefore)
			join, _ := wantedJoin(c[0], c[1])
			for _, kept := range [][]int{backward(join.labels), c[0].labels, join.labels, nil} {
				keep := withSpare(kept, -9)
				for range 2 {
					// What the results share with an argument changes here.
					got := pair(t, r, a, b, keep)
					sameTensor(t, "a contracted pair", got, wantedPair(r, before, otherBefore, kept))
					spoilTensor(got)
					got = pair(t, r, a, a, keep)
					sameTensor(t, "a tensor contracted with itself", got, wantedPair(r, before, before, kept))
					spoilTensor(got)
					got = summed(t, r, a, keep)
					sameTensor(t, "a sum", got, wantedSumLabels(r, before, kept))
					spoilTensor(got)
					impl.JoinSize(a, b)
				}
				sameList(t, "the labels to keep", keep[:len(keep)+3], append(slices.Clone(kept), -9, -9, -9))
			}
			// All of a is kept here: the sum is a itself, but not its memory.
			got := summed(t, r, a, a.Labels)
			sameTensor(t, "a sum over nothing", got, before)
			spoilTensor(got)
			stays(t, "a part of the first tensor", a, before)
			stays(t, "a part of the second tensor", b, otherBefore)
			if t.Failed() {
				t.Fatalf("over %v of %v and %v", r, c[0], c[1])
			}
		}
	}
}

func TestTensorsStayWithDiagonals(t *testing.T) {
	for _, r := range fullRings() {
		for _, dims := range [][]int{{2, 2, 2}, {3, 2, 3}, {1, 1, 1}, {4, 4, 1}} {
			before := tensorWith(axes{[]int{8, 3, 5}, dims}, elemsFor(r, countOf(dims), 1))
			tensor := spareTensor(before)
			for range 2 {
				for _, a := range before.Labels {
					for _, b := range before.Labels {
						got, ok := impl.DiagonalTensor(r, tensor, a, b)
						if ok {
							sameTensor(t, "a diagonal", got, wantedDiagonal(r, before, a, b))
						}
						spoilTensor(got)
					}
				}
			}
			stays(t, "a part of a tensor", tensor, before)
		}
	}
}

// Arguments may share memory with each other.
func TestProductsOfArgumentsInCommonMemory(t *testing.T) {
	r := polyRing(7, 2)
	data, labels, dims := []int{1, 2, 3, 4, 5, 6}, []int{2}, []int{2}
	a := impl.Tensor{Labels: labels, Dims: dims, Data: data[:4]}
	b := impl.Tensor{Labels: labels, Dims: dims, Data: data[2:]}
	sameTensor(t, "a pair", pair(t, r, a, b, labels), line(2, 2, 3, 3, 1, 3))
	sameTensor(t, "a pair", pair(t, r, a, b, nil), point(4, 6))
	sameTensor(t, "a sum", summed(t, r, a, labels), line(2, 2, 1, 2, 3, 4))
	// Lists that stand for several things at once.
	l := []int{1, 2}
	c := impl.Tensor{Labels: l, Dims: l, Data: l}
	sameTensor(t, "a pair", pair(t, modRing(7), c, c, l), impl.Tensor{Labels: []int{1, 2}, Dims: []int{1, 2}, Data: []int{1, 4}})
	sameTensor(t, "a sum", summed(t, modRing(7), c, l[1:]), line(2, 2, 1, 2))
	sameList(t, "the data", data, []int{1, 2, 3, 4, 5, 6})
	sameList(t, "the labels", labels, []int{2})
	sameList(t, "the dimensions", dims, []int{2})
	sameList(t, "the list", l, []int{1, 2})
}

func TestPartsOfProductsAreApart(t *testing.T) {
	r := capRing(1)
	l := []int{1}
	tensor := impl.Tensor{Labels: l, Dims: l, Data: l}
	contracted, kept := pair(t, r, tensor, tensor, l), pair(t, r, point(1), tensor, l)
	box := impl.Tensor{Labels: []int{0, 1}, Dims: []int{1, 1}, Data: []int{1}}
	partsApart(t, l, contracted, kept, summed(t, r, tensor, l), diagonal(t, r, box, 1, 0))
}

func TestInvalidTensorsStayWithProducts(t *testing.T) {
	r := polyRing(7, 2)
	// The last one is valid, but the axes of the other one do not suit it.
	valid := impl.Tensor{Labels: []int{4, 3}, Dims: []int{1, 2}, Data: []int{1, 2, 3, 4}}
	for _, before := range append(slices.Clone(brokenTensors), valid) {
		otherBefore := impl.Tensor{Labels: []int{4, 3}, Dims: []int{2, 1}, Data: []int{1, 2, 3, 4}}
		tensor, other, keep := spareTensor(before), spareTensor(otherBefore), withSpare([]int{3, 4}, -9)
		noPair(t, r, tensor, other, keep)
		impl.SumLabels(r, tensor, keep)
		noDiagonal(t, r, tensor, 4, 3)
		impl.JoinSize(tensor, other)
		stays(t, "a part of a tensor", tensor, before)
		stays(t, "a part of the other tensor", other, otherBefore)
		sameList(t, "labels to keep", keep[:5], []int{3, 4, -9, -9, -9})
	}
}
