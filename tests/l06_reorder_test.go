package tests

import (
	"math"
	"slices"
	"testing"

	"loop.example/g03211/impl"
)

// freeLabel is a label of no tensor of axesCases, and so is the next one.
const freeLabel = 44

// place holds the index values of an element in the ascending order of their
// labels, so that it stays the same when the axes change places.
type place [12]int8

func placesOf(labels []int, dims []int) []place {
	ranks := make([]int, len(labels))
	for i, label := range labels {
		ranks[i] = slices.Index(ascending(labels), label)
	}
	indices := indicesOf(dims)
	places := make([]place, len(indices))
	for n, index := range indices {
		for i, value := range index {
			places[n][ranks[i]] = int8(value)
		}
	}
	return places
}

// wantedPermutation follows the text of chapter 7. It takes labels to be those
// of the axes, in any order.
func wantedPermutation(a axes, elems [][]int, labels []int) impl.Tensor {
	at := make(map[place]int, len(elems))
	for n, p := range placesOf(a.labels, a.dims) {
		at[p] = n
	}
	dims := make([]int, len(labels))
	for i, label := range labels {
		dims[i] = a.dims[slices.Index(a.labels, label)]
	}
	moved := make([][]int, 0, len(elems))
	for _, p := range placesOf(labels, dims) {
		moved = append(moved, elems[at[p]])
	}
	return tensorWith(axes{labels, dims}, moved)
}

func ascending(labels []int) []int {
	l := slices.Clone(labels)
	slices.Sort(l)
	return l
}

func descending(labels []int) []int {
	l := ascending(labels)
	slices.Reverse(l)
	return l
}

func backward(labels []int) []int {
	l := slices.Clone(labels)
	slices.Reverse(l)
	return l
}

func rotated(labels []int, n int) []int {
	if len(labels) == 0 {
		return nil
	}
	n %= len(labels)
	return slices.Concat(labels[n:], labels[:n])
}

// someOrders returns orders of the labels, their own one among them.
func someOrders(labels []int) [][]int {
	orders := [][]int{labels, backward(labels), ascending(labels), descending(labels), rotated(labels, 1), rotated(labels, 5)}
	if len(labels) > 1 {
		swapped := slices.Clone(labels)
		swapped[0], swapped[1] = swapped[1], swapped[0]
		orders = append(orders, swapped)
	}
	return orders
}

// allOrders returns every order of the labels.
func allOrders(labels []int) [][]int {
	if len(labels) == 0 {
		return [][]int{{}}
	}
	var orders [][]int
	for i, label := range labels {
		rest := slices.Concat(labels[:i], labels[i+1:])
		for _, order := range allOrders(rest) {
			orders = append(orders, append([]int{label}, order...))
		}
	}
	return orders
}

func permute(t *testing.T, r impl.Ring, tensor impl.Tensor, labels []int) impl.Tensor {
	t.Helper()
	got, ok := impl.PermuteTensor(r, tensor, labels)
	if !ok || !impl.TensorOk(r, got) {
		t.Errorf("over %v PermuteTensor of labels %v to %v: %t, or no tensor", r, tensor.Labels, labels, ok)
	}
	return got
}

func relabel(t *testing.T, r impl.Ring, tensor impl.Tensor, from []int, to []int) impl.Tensor {
	t.Helper()
	got, ok := impl.RelabelTensor(r, tensor, from, to)
	if !ok || !impl.TensorOk(r, got) {
		t.Errorf("over %v RelabelTensor of labels %v from %v to %v: %t, or no tensor", r, tensor.Labels, from, to, ok)
	}
	return got
}

func noPermutation(t *testing.T, r impl.Ring, tensor impl.Tensor, labels []int) {
	t.Helper()
	got, ok := impl.PermuteTensor(r, tensor, labels)
	noTensor(t, "PermuteTensor with wrong arguments", got)
	if ok {
		t.Errorf("over %v PermuteTensor of %v to %v gives true", r, tensor.Labels, labels)
	}
}

func noRelabelling(t *testing.T, r impl.Ring, tensor impl.Tensor, from []int, to []int) {
	t.Helper()
	got, ok := impl.RelabelTensor(r, tensor, from, to)
	noTensor(t, "RelabelTensor with wrong arguments", got)
	if ok {
		t.Errorf("over %v RelabelTensor of %v from %v to %v gives true", r, tensor.Labels, from, to)
	}
}

func same(t *testing.T, r impl.Ring, a impl.Tensor, b impl.Tensor, want bool) {
	t.Helper()
	if impl.SameTensor(r, a, b) != want || impl.SameTensor(r, b, a) != want {
		t.Errorf("over %v SameTensor of %v and %v is not %t both ways", r, a, b, want)
	}
}

func TestPermuteTensor(t *testing.T) {
	a := impl.Tensor{Labels: []int{2, 5}, Dims: []int{2, 3}, Data: []int{0, 1, 2, 3, 4, 5}}
	sameTensor(t, "a tensor with axes exchanged", permute(t, modRing(7), a, []int{5, 2}),
		impl.Tensor{Labels: []int{5, 2}, Dims: []int{3, 2}, Data: []int{0, 3, 1, 4, 2, 5}})
	sameTensor(t, "a tensor with its own order", permute(t, modRing(7), a, []int{2, 5}), a)
	pairs := impl.Tensor{Labels: []int{9, 0}, Dims: []int{2, 2}, Data: []int{0, 1, 2, 3, 4, 5, 6, 0}}
	sameTensor(t, "a tensor of pairs with axes exchanged", permute(t, polyRing(7, 2), pairs, []int{0, 9}),
		impl.Tensor{Labels: []int{0, 9}, Dims: []int{2, 2}, Data: []int{0, 1, 4, 5, 2, 3, 6, 0}})
	b := impl.Tensor{Labels: []int{4, 1, 7}, Dims: []int{2, 3, 2}, Data: []int{0, 1, 2, 3, 4, 5, 6, 7, 8, 9, 10, 11}}
	sameTensor(t, "a tensor whose axes go round", permute(t, capRing(11), b, []int{7, 4, 1}),
		impl.Tensor{Labels: []int{7, 4, 1}, Dims: []int{2, 2, 3}, Data: []int{0, 2, 4, 6, 8, 10, 1, 3, 5, 7, 9, 11}})
	sameTensor(t, "a tensor whose axes go round the other way", permute(t, capRing(11), b, []int{1, 7, 4}),
		impl.Tensor{Labels: []int{1, 7, 4}, Dims: []int{3, 2, 2}, Data: []int{0, 6, 1, 7, 2, 8, 3, 9, 4, 10, 5, 11}})
	sameTensor(t, "a tensor without axes", permute(t, omegaRing(17), impl.Tensor{Data: []int{1, 2, 3, 4}}, nil), impl.Tensor{Data: []int{1, 2, 3, 4}})
	sameTensor(t, "a tensor without axes", permute(t, boolRing(), impl.Tensor{Data: []int{1}}, []int{}), impl.Tensor{Data: []int{1}})
	line := impl.Tensor{Labels: []int{99}, Dims: []int{3}, Data: []int{2, 0, 1}}
	sameTensor(t, "a tensor with one axis", permute(t, minRing(2), line, []int{99}), line)
}

func TestPermuteManyTensors(t *testing.T) {
	t.Parallel()
	for _, r := range fullRings() {
		for i, c := range axesCases {
			elems := elemsFor(r, c.size, i)
			tensor := tensorWith(c.axes, elems)
			for _, order := range someOrders(c.labels) {
				got := permute(t, r, tensor, order)
				sameTensor(t, "a tensor in another order", got, wantedPermutation(c.axes, elems, order))
				sameTensor(t, "a tensor in another order and back", permute(t, r, got, c.labels), tensor)
				if t.Failed() {
					t.Fatalf("over %v %v in the order %v", r, c.axes, order)
				}
			}
		}
	}
}

func TestEveryOrderOfThreeLabels(t *testing.T) {
	for i, dims := range [][]int{{2, 3, 4}, {4, 3, 2}, {3, 3, 3}, {2, 2, 5}, {1, 3, 2}, {3, 1, 2}, {3, 2, 1}, {1, 1, 4}, {1, 4, 1}, {1, 1, 1}, {8, 7, 8}} {
		for _, labels := range [][]int{{0, 1, 2}, {7, 98, 3}, {99, 50, 0}} {
			for _, r := range []impl.Ring{modRing(1000003), setRing(20), polyRing(7, 2), polyRing(5, 3), polyRing(2, 6), omegaRing(17)} {
				a := axes{labels, dims}
				elems := elemsFor(r, dims[0]*dims[1]*dims[2], i)
				tensor := tensorWith(a, elems)
				ascended := wantedPermutation(a, elems, ascending(labels))
				for _, first := range allOrders(labels) {
					got := permute(t, r, tensor, first)
					sameTensor(t, "a tensor in another order", got, wantedPermutation(a, elems, first))
					for _, second := range allOrders(labels) {
						sameTensor(t, "a tensor in two orders", permute(t, r, got, second), wantedPermutation(a, elems, second))
					}
					sameTensor(t, "a tensor in another order and back", permute(t, r, got, labels), tensor)
					sameTensor(t, "a tensor in ascending order", impl.SortTensor(r, got), ascended)
					same(t, r, tensor, got, true)
				}
			}
		}
	}
}

// Values that no two elements share show that each element is at the same
// index value for each label, not only an equal one.
func TestElementsKeepTheirIndices(t *testing.T) {
	t.Parallel()
	r := modRing(1000003)
	for _, c := range axesCases {
		tensor := c.tensor()
		for n := range c.size {
			tensor.Data = append(tensor.Data, n)
		}
		for _, order := range someOrders(c.labels) {
			moved := permute(t, r, tensor, order)
			for n, index := range indicesOf(moved.Dims) {
				old := make([]int, len(index))
				for i, label := range order {
					old[slices.Index(c.labels, label)] = index[i]
				}
				if got, want := moved.Data[n], impl.OffsetOf(tensor, old); got != want {
					t.Fatalf("%v in the order %v: %d at %v, not %d", c.axes, order, got, index, want)
				}
			}
		}
	}
}

func TestLabelsOfNoPermutation(t *testing.T) {
	r := polyRing(7, 2)
	for i, c := range axesCases {
		tensor := tensorWith(c.axes, elemsFor(r, c.size, i))
		for _, order := range someOrders(c.labels) {
			for n := range order {
				noPermutation(t, r, tensor, order[:n])
				noPermutation(t, r, tensor, order[n+1:])
				for _, label := range []int{-1, 100, freeLabel, order[(n+1)%len(order)], order[n] + 100, order[n] - 100, order[n] + 1<<32, math.MinInt, math.MaxInt} {
					changed := slices.Clone(order)
					changed[n] = label
					if label != order[n] {
						noPermutation(t, r, tensor, changed)
					}
				}
				noPermutation(t, r, tensor, append(slices.Clone(order), order[n]))
				noPermutation(t, r, tensor, slices.Insert(slices.Clone(order), n, order[n]))
			}
			for _, label := range []int{-1, 0, freeLabel, 99, 100, math.MaxInt} {
				noPermutation(t, r, tensor, append(slices.Clone(order), label))
				noPermutation(t, r, tensor, append([]int{label}, order...))
			}
			noPermutation(t, r, tensor, append(slices.Clone(order), freeLabel, freeLabel+1))
			noPermutation(t, r, tensor, slices.Repeat([]int{7}, 1000))
		}
	}
}

func TestEveryListOfFewLabels(t *testing.T) {
	r := modRing(1000003)
	for _, a := range []axes{{nil, nil}, {[]int{2}, []int{3}}, {[]int{3, 0}, []int{2, 3}}, {[]int{2, 0, 3}, []int{2, 3, 2}}, {[]int{3, 2, 0}, []int{1, 1, 1}}} {
		elems := elemsFor(r, len(indicesOf(a.dims)), 1)
		tensor := tensorWith(a, elems)
		for _, labels := range listsOf(4, -1, 0, 2, 3, 100) {
			if !slices.Equal(ascending(labels), ascending(a.labels)) {
				noPermutation(t, r, tensor, labels)
				continue
			}
			sameTensor(t, "a tensor in another order", permute(t, r, tensor, labels), wantedPermutation(a, elems, labels))
		}
	}
}

func TestSortTensor(t *testing.T) {
	t.Parallel()
	a := impl.Tensor{Labels: []int{5, 2}, Dims: []int{3, 2}, Data: []int{0, 3, 1, 4, 2, 5}}
	ascended := impl.Tensor{Labels: []int{2, 5}, Dims: []int{2, 3}, Data: []int{0, 1, 2, 3, 4, 5}}
	sameTensor(t, "a tensor in ascending order", impl.SortTensor(modRing(7), a), ascended)
	sameTensor(t, "a tensor that was so before", impl.SortTensor(modRing(7), ascended), ascended)
	b := impl.Tensor{Labels: []int{10, 9, 0}, Dims: []int{2, 1, 2}, Data: []int{1, 2, 3, 4}}
	sameTensor(t, "a tensor of three axes", impl.SortTensor(wideRing(9), b),
		impl.Tensor{Labels: []int{0, 9, 10}, Dims: []int{2, 1, 2}, Data: []int{1, 3, 2, 4}})
	sameTensor(t, "a tensor without axes", impl.SortTensor(setRing(3), impl.Tensor{Data: []int{6}}), impl.Tensor{Data: []int{6}})
	for _, r := range fullRings() {
		for i, c := range axesCases {
			elems := elemsFor(r, c.size, i)
			want := wantedPermutation(c.axes, elems, ascending(c.labels))
			for _, order := range someOrders(c.labels) {
				got := impl.SortTensor(r, wantedPermutation(c.axes, elems, order))
				sameTensor(t, "a tensor in ascending order", got, want)
				if t.Failed() {
					t.Fatalf("over %v %v in the order %v", r, c.axes, order)
				}
			}
		}
	}
}

func TestRelabelTensor(t *testing.T) {
	r := polyRing(7, 2)
	dims, data := []int{2, 3, 1}, []int{0, 1, 2, 3, 4, 5, 6, 0, 1, 2, 3, 4}
	tensor := impl.Tensor{Labels: []int{2, 5, 3}, Dims: dims, Data: data}
	for _, c := range []struct {
		from   []int
		to     []int
		labels []int
	}{
		{nil, nil, []int{2, 5, 3}},
		{[]int{}, []int{}, []int{2, 5, 3}},
		{[]int{5}, []int{7}, []int{2, 7, 3}},
		{[]int{2}, []int{99}, []int{99, 5, 3}},
		{[]int{3}, []int{0}, []int{2, 5, 0}},
		{[]int{5}, []int{5}, []int{2, 5, 3}},
		{[]int{2, 5, 3}, []int{2, 5, 3}, []int{2, 5, 3}},
		{[]int{2, 5}, []int{5, 2}, []int{5, 2, 3}},
		{[]int{5, 2}, []int{2, 5}, []int{5, 2, 3}},
		{[]int{3, 2, 5}, []int{2, 5, 3}, []int{5, 3, 2}},
		{[]int{2, 5, 3}, []int{5, 3, 8}, []int{5, 3, 8}},
		{[]int{2, 5}, []int{5, 8}, []int{5, 8, 3}},
		{[]int{5, 2}, []int{8, 5}, []int{5, 8, 3}},
		// Labels that the tensor does not have count for nothing.
		{[]int{4}, []int{5}, []int{2, 5, 3}},
		{[]int{4, 1, 99}, []int{2, 2, 2}, []int{2, 5, 3}},
		{[]int{4, 5}, []int{2, 7}, []int{2, 7, 3}},
		{[]int{-1, 100, math.MaxInt, math.MinInt}, []int{5, 5, 5, 5}, []int{2, 5, 3}},
		{[]int{-1, 5, 100}, []int{100, 6, -1}, []int{2, 6, 3}},
		{[]int{7, 5}, []int{math.MaxInt, 7}, []int{2, 7, 3}},
		{[]int{5, 7}, []int{7, 8}, []int{2, 7, 3}},
		// The first occurrence of a label counts.
		{[]int{5, 5}, []int{7, 8}, []int{2, 7, 3}},
		{[]int{5, 5}, []int{8, 7}, []int{2, 8, 3}},
		{[]int{5, 2, 5}, []int{5, 9, 2}, []int{9, 5, 3}},
		{[]int{4, 5, 5, 5, 2}, []int{0, 1, 100, -1, 4}, []int{4, 1, 3}},
		{[]int{3, 3, 2, 2}, []int{2, 3, 3, 2}, []int{3, 5, 2}},
	} {
		got := relabel(t, r, tensor, c.from, c.to)
		sameTensor(t, "a tensor with other labels", got, impl.Tensor{Labels: c.labels, Dims: dims, Data: data})
	}
	for _, c := range []struct {
		from []int
		to   []int
	}{
		{[]int{5}, nil},
		{nil, []int{5}},
		{[]int{4}, nil},
		{nil, []int{4}},
		{[]int{5, 2}, []int{7}},
		{[]int{5}, []int{7, 8}},
		{[]int{4, 4}, []int{4}},
		{[]int{2, 5, 3}, []int{0, 1, 2, 3}},
		{[]int{5}, []int{2}},
		{[]int{5}, []int{3}},
		{[]int{2}, []int{5}},
		{[]int{3}, []int{5}},
		{[]int{2, 5}, []int{7, 7}},
		{[]int{2, 5}, []int{5, 3}},
		{[]int{2, 5, 3}, []int{0, 1, 0}},
		{[]int{5}, []int{-1}},
		{[]int{5}, []int{100}},
		{[]int{3}, []int{math.MaxInt}},
		{[]int{2}, []int{math.MinInt}},
		{[]int{2}, []int{1 << 32}},
		{[]int{5, 5}, []int{2, 7}},
		{[]int{5, 5}, []int{100, 7}},
		{[]int{2, 5, 2}, []int{2, 2, 9}},
	} {
		noRelabelling(t, r, tensor, c.from, c.to)
	}
}

// wantedLabels follows the text of chapter 7; it returns false if the result
// has no valid labels.
func wantedLabels(labels []int, from []int, to []int) ([]int, bool) {
	if len(from) != len(to) {
		return nil, false
	}
	first := make(map[int]int)
	for k := len(from) - 1; k >= 0; k-- {
		first[from[k]] = to[k]
	}
	seen := make(map[int]bool)
	var result []int
	for _, label := range labels {
		if other, ok := first[label]; ok {
			label = other
		}
		if label < 0 || label > 99 || seen[label] {
			return nil, false
		}
		seen[label] = true
		result = append(result, label)
	}
	return result, true
}

func sameRelabelling(t *testing.T, r impl.Ring, tensor impl.Tensor, from []int, to []int) {
	t.Helper()
	labels, ok := wantedLabels(tensor.Labels, from, to)
	if !ok {
		noRelabelling(t, r, tensor, from, to)
		return
	}
	got := relabel(t, r, tensor, from, to)
	sameTensor(t, "a tensor with other labels", got, impl.Tensor{Labels: labels, Dims: tensor.Dims, Data: tensor.Data})
}

func TestRelabelWithEveryShortList(t *testing.T) {
	r := capRing(9)
	for _, a := range []axes{{nil, nil}, {[]int{1}, []int{3}}, {[]int{2, 0}, []int{2, 3}}, {[]int{0, 2, 1}, []int{1, 2, 2}}} {
		tensor := tensorWith(a, elemsFor(r, len(indicesOf(a.dims)), 1))
		for _, from := range listsOf(3, 0, 1, 2, 100) {
			for _, to := range listsOf(3, -1, 0, 1, 2) {
				sameRelabelling(t, r, tensor, from, to)
			}
		}
	}
}

func TestRelabelManyTensors(t *testing.T) {
	t.Parallel()
	for _, r := range fullRings() {
		for i, c := range axesCases {
			tensor := tensorWith(c.axes, elemsFor(r, c.size, i))
			var all, next []int
			for label := range 100 {
				all = append(all, label)
				next = append(next, (label+1)%100)
			}
			sameRelabelling(t, r, tensor, all, next)
			sameRelabelling(t, r, tensor, all, backward(all))
			sameRelabelling(t, r, tensor, c.labels, backward(c.labels))
			sameRelabelling(t, r, tensor, c.labels, rotated(c.labels, 1))
			sameRelabelling(t, r, tensor, slices.Concat(c.labels, c.labels), slices.Repeat(c.labels, 2))
			sameRelabelling(t, r, tensor, slices.Concat(c.labels, all), slices.Concat(backward(c.labels), next))
			got := relabel(t, r, relabel(t, r, tensor, all, next), next, all)
			sameTensor(t, "a tensor with its labels again", got, tensor)
			for n, label := range c.labels {
				for to := -2; to <= 101; to += 1 + c.size/256 {
					sameRelabelling(t, r, tensor, []int{label}, []int{to})
				}
				sameRelabelling(t, r, tensor, []int{label}, []int{c.labels[(n+1)%len(c.labels)]})
			}
			if t.Failed() {
				t.Fatalf("over %v %v with other labels", r, c.axes)
			}
		}
	}
}

func TestSameTensor(t *testing.T) {
	r := modRing(7)
	a := impl.Tensor{Labels: []int{2, 5}, Dims: []int{2, 3}, Data: []int{0, 1, 2, 3, 4, 5}}
	for _, c := range []struct {
		b    impl.Tensor
		same bool
	}{
		{a, true},
		{impl.Tensor{Labels: []int{5, 2}, Dims: []int{3, 2}, Data: []int{0, 3, 1, 4, 2, 5}}, true},
		{impl.Tensor{Labels: []int{5, 2}, Dims: []int{3, 2}, Data: []int{0, 1, 2, 3, 4, 5}}, false},
		{impl.Tensor{Labels: []int{5, 2}, Dims: []int{2, 3}, Data: []int{0, 1, 2, 3, 4, 5}}, false},
		{impl.Tensor{Labels: []int{2, 5}, Dims: []int{3, 2}, Data: []int{0, 1, 2, 3, 4, 5}}, false},
		{impl.Tensor{Labels: []int{2, 6}, Dims: []int{2, 3}, Data: []int{0, 1, 2, 3, 4, 5}}, false},
		{impl.Tensor{Labels: []int{1, 5}, Dims: []int{2, 3}, Data: []int{0, 1, 2, 3, 4, 5}}, false},
		{impl.Tensor{Labels: []int{2}, Dims: []int{6}, Data: []int{0, 1, 2, 3, 4, 5}}, false},
		{impl.Tensor{Labels: []int{2, 5, 9}, Dims: []int{2, 3, 1}, Data: []int{0, 1, 2, 3, 4, 5}}, false},
		{impl.Tensor{Labels: []int{1, 2, 5}, Dims: []int{1, 2, 3}, Data: []int{0, 1, 2, 3, 4, 5}}, false},
		{impl.Tensor{Labels: []int{2, 5}, Dims: []int{2, 2}, Data: []int{0, 1, 2, 3}}, false},
		{impl.Tensor{Data: []int{0}}, false},
		// These are no tensors, not even the same as themselves.
		{impl.Tensor{}, false},
		{impl.Tensor{Labels: []int{2, 5}, Dims: []int{2, 3}, Data: []int{0, 1, 2, 3, 4}}, false},
		{impl.Tensor{Labels: []int{2, 5}, Dims: []int{2, 3}, Data: []int{0, 1, 2, 3, 4, 5, 6}}, false},
		{impl.Tensor{Labels: []int{2, 5}, Dims: []int{2, 3}, Data: []int{0, 1, 2, 3, 4, 7}}, false},
		{impl.Tensor{Labels: []int{2, 2}, Dims: []int{2, 3}, Data: []int{0, 1, 2, 3, 4, 5}}, false},
		{impl.Tensor{Labels: []int{2, 5}, Dims: []int{2}, Data: []int{0, 1, 2, 3, 4, 5}}, false},
	} {
		same(t, r, a, c.b, c.same)
		same(t, r, c.b, c.b, impl.TensorOk(r, c.b))
	}
	same(t, r, impl.Tensor{Data: []int{3}}, impl.Tensor{Labels: []int{}, Dims: []int{}, Data: []int{3}}, true)
	same(t, r, impl.Tensor{Data: []int{3}}, impl.Tensor{Data: []int{4}}, false)
	same(t, r, impl.Tensor{Data: []int{3}}, impl.Tensor{Labels: []int{4}, Dims: []int{1}, Data: []int{3}}, false)
	// Over another ring the same lists may be a tensor, or none.
	same(t, capRing(5), a, a, true)
	same(t, capRing(4), a, a, false)
}

func TestSameTensorOfManyTensors(t *testing.T) {
	t.Parallel()
	for _, r := range fullRings() {
		top := topOf(r)
		for i, c := range axesCases {
			elems := elemsFor(r, c.size, i)
			tensor := tensorWith(c.axes, elems)
			for _, order := range someOrders(c.labels) {
				same(t, r, tensor, wantedPermutation(c.axes, elems, order), true)
			}
			other := wantedPermutation(c.axes, elems, backward(c.labels))
			length := len(other.Data)
			for _, at := range []int{0, length / 2, length - 1} {
				changed := cloneTensor(other)
				changed.Data[at] = (changed.Data[at] + 1) % (top + 1)
				same(t, r, tensor, changed, false)
			}
			for n := range other.Labels {
				changed := cloneTensor(other)
				changed.Labels[n] = freeLabel
				same(t, r, tensor, changed, false)
			}
			if t.Failed() {
				t.Fatalf("over %v %v", r, c.axes)
			}
		}
	}
}

// smallTensors returns all tensors with up to two of the labels 0 and 1 and
// dimensions up to 2 over RBool.
func smallTensors() []impl.Tensor {
	var tensors []impl.Tensor
	for _, labels := range [][]int{nil, {0}, {1}, {0, 1}, {1, 0}} {
		for _, dims := range listsOf(2, 1, 2) {
			if len(dims) != len(labels) {
				continue
			}
			size := len(indicesOf(dims))
			for bits := range 1 << size {
				data := make([]int, size)
				for n := range data {
					data[n] = bits >> n & 1
				}
				tensors = append(tensors, impl.Tensor{Labels: labels, Dims: dims, Data: data})
			}
		}
	}
	return tensors
}

// entries names the dimension of each label and each element by its place.
func entries(tensor impl.Tensor) (map[int]int, map[place]int) {
	dims, elems := make(map[int]int), make(map[place]int)
	for i, label := range tensor.Labels {
		dims[label] = tensor.Dims[i]
	}
	for n, p := range placesOf(tensor.Labels, tensor.Dims) {
		elems[p] = tensor.Data[n]
	}
	return dims, elems
}

func sameEntries[K comparable](a map[K]int, b map[K]int) bool {
	if len(a) != len(b) {
		return false
	}
	for key, n := range a {
		if other, ok := b[key]; !ok || other != n {
			return false
		}
	}
	return true
}

func TestSameTensorOfAllSmallTensors(t *testing.T) {
	tensors := smallTensors()
	if len(tensors) != 66 {
		t.Fatalf("there are %d small tensors", len(tensors))
	}
	for _, a := range tensors {
		dims, elems := entries(a)
		for _, b := range tensors {
			otherDims, otherElems := entries(b)
			same(t, boolRing(), a, b, sameEntries(dims, otherDims) && sameEntries(elems, otherElems))
		}
	}
}

// noReordering looks for the answers of all the functions to arguments among
// which the ring or the tensor is not valid.
func noReordering(t *testing.T, r impl.Ring, tensor impl.Tensor) {
	t.Helper()
	noPermutation(t, r, tensor, tensor.Labels)
	noPermutation(t, r, tensor, backward(tensor.Labels))
	noPermutation(t, r, tensor, nil)
	noTensor(t, "SortTensor without a tensor", impl.SortTensor(r, tensor))
	noRelabelling(t, r, tensor, nil, nil)
	noRelabelling(t, r, tensor, []int{0, 1}, []int{1, 0})
	noRelabelling(t, r, tensor, tensor.Labels, labelsFrom(0, len(tensor.Labels)))
	same(t, r, tensor, tensor, false)
	same(t, r, tensor, impl.Tensor{Data: impl.ZeroOf(r)}, false)
	same(t, r, tensor, impl.Tensor{}, false)
}

// withWrongData returns what becomes of a tensor when its Data is no longer
// right.
func withWrongData(r impl.Ring, tensor impl.Tensor) []impl.Tensor {
	var wrong []impl.Tensor
	add := func(data []int) {
		wrong = append(wrong, impl.Tensor{Labels: tensor.Labels, Dims: tensor.Dims, Data: data})
	}
	length := len(tensor.Data)
	for _, at := range []int{0, length / 2, length - 1} {
		for _, n := range []int{-1, topOf(r) + 1, math.MaxInt} {
			data := slices.Clone(tensor.Data)
			data[at] = n
			add(data)
		}
	}
	add(slices.Clone(tensor.Data[:length-1]))
	add(append(slices.Clone(tensor.Data), 0))
	add(append(slices.Clone(tensor.Data), tensor.Data[:impl.RingWidth(r)]...))
	return wrong
}

func TestNoTensorsAreReordered(t *testing.T) {
	for _, a := range notAxes {
		for _, data := range [][]int{nil, {0}, dataOf(a.dims)} {
			noReordering(t, boolRing(), impl.Tensor{Labels: a.labels, Dims: a.dims, Data: data})
		}
	}
	for _, r := range fullRings() {
		for i, c := range axesCases[:15] {
			for _, wrong := range withWrongData(r, tensorWith(c.axes, elemsFor(r, c.size, i))) {
				noReordering(t, r, wrong)
			}
		}
	}
	// Other labels do not make a tensor of these.
	noRelabelling(t, boolRing(), impl.Tensor{Labels: []int{100}, Dims: []int{1}, Data: []int{1}}, []int{100}, []int{0})
	noRelabelling(t, boolRing(), impl.Tensor{Labels: []int{-1, 0}, Dims: []int{1, 1}, Data: []int{1}}, []int{-1}, []int{1})
}

func TestTensorsOfInvalidRingsAreNotReordered(t *testing.T) {
	for _, r := range notRings {
		for _, c := range axesCases[:12] {
			for _, data := range [][]int{nil, make([]int, c.size), make([]int, 4*c.size), make([]int, max(0, min(r.N, 9))*c.size)} {
				noReordering(t, r, impl.Tensor{Labels: c.labels, Dims: c.dims, Data: data})
			}
		}
	}
}

func TestReorderedTensorsStay(t *testing.T) {
	t.Parallel()
	for _, r := range fullRings() {
		for i, c := range axesCases {
			elems := elemsFor(r, c.size, i)
			before := tensorWith(c.axes, elems)
			tensor, other := spareTensor(before), spareTensor(before)
			order := withSpare(backward(c.labels), -9)
			from, to := withSpare(slices.Clone(c.labels), -9), withSpare(backward(c.labels), -9)
			permuted := wantedPermutation(c.axes, elems, backward(c.labels))
			ascended := wantedPermutation(c.axes, elems, ascending(c.labels))
			relabelled := impl.Tensor{Labels: backward(c.labels), Dims: before.Dims, Data: before.Data}
			for range 2 {
				// What the results share with an argument changes here.
				got := permute(t, r, tensor, order)
				sameTensor(t, "a permuted tensor", got, permuted)
				spoilTensor(got)
				got = permute(t, r, tensor, tensor.Labels)
				sameTensor(t, "a tensor with its own order", got, before)
				spoilTensor(got)
				got = impl.SortTensor(r, tensor)
				sameTensor(t, "a tensor in ascending order", got, ascended)
				spoilTensor(got)
				got = relabel(t, r, tensor, from, to)
				sameTensor(t, "a tensor with other labels", got, relabelled)
				spoilTensor(got)
				got = relabel(t, r, tensor, nil, nil)
				sameTensor(t, "a tensor with its own labels", got, before)
				spoilTensor(got)
				same(t, r, tensor, other, true)
			}
			stays(t, "a part of a tensor", tensor, before)
			stays(t, "a part of the other tensor", other, before)
			for _, l := range []struct{ list, want []int }{{order, backward(c.labels)}, {from, c.labels}, {to, backward(c.labels)}} {
				sameList(t, "a list of labels", l.list[:len(l.list)+3], append(slices.Clone(l.want), -9, -9, -9))
			}
		}
	}
}

// partsApart takes the results to have l as each of their lists: lists of the
// same content and length could be a single one.
func partsApart(t *testing.T, l []int, results ...impl.Tensor) {
	t.Helper()
	want := slices.Clone(l)
	for _, got := range results {
		for n, part := range [][]int{got.Labels, got.Dims, got.Data} {
			sameList(t, "a part of a tensor", part, want)
			spoil(part, 7+n)
		}
		sameList(t, "the list", l, want)
	}
}

func TestPartsOfReorderedTensorsAreApart(t *testing.T) {
	r := capRing(1)
	l := []int{1}
	tensor := impl.Tensor{Labels: l, Dims: l, Data: l}
	permuted, _ := impl.PermuteTensor(r, tensor, l)
	relabelled, _ := impl.RelabelTensor(r, tensor, l, l)
	partsApart(t, l, permuted, impl.SortTensor(r, tensor), relabelled)
}

// brokenTensors are no tensors over polyRing(7, 2), each for another reason.
var brokenTensors = []impl.Tensor{
	{Labels: []int{4, 3}, Dims: []int{2, 1}, Data: []int{1, 2, 3, 7}},
	{Labels: []int{4, 3}, Dims: []int{2, 1}, Data: []int{1, 2, 3}},
	{Labels: []int{3, 3}, Dims: []int{2, 1}, Data: []int{1, 2, 3, 4}},
	{Labels: []int{4, 3}, Dims: []int{0, 9}, Data: []int{1, 2, 3, 4}},
	{Labels: []int{4}, Dims: []int{2, 1}, Data: []int{1, 2, 3, 4}},
}

func TestInvalidTensorsStayWhenReordered(t *testing.T) {
	r := polyRing(7, 2)
	// The last one is valid, but the lists of labels below do not suit it.
	valid := impl.Tensor{Labels: []int{4, 3}, Dims: []int{2, 1}, Data: []int{1, 2, 3, 4}}
	for _, before := range append(slices.Clone(brokenTensors), valid) {
		tensor := spareTensor(before)
		wrong, from, to := withSpare([]int{4, 2}, -9), withSpare([]int{4, 3}, -9), withSpare([]int{100, 7}, -9)
		noPermutation(t, r, tensor, wrong)
		noRelabelling(t, r, tensor, from, to)
		impl.SortTensor(r, tensor)
		impl.SameTensor(r, tensor, tensor)
		stays(t, "a part of a tensor", tensor, before)
		sameList(t, "wrong labels", wrong[:5], []int{4, 2, -9, -9, -9})
		sameList(t, "labels to replace", from[:5], []int{4, 3, -9, -9, -9})
		sameList(t, "labels instead", to[:5], []int{100, 7, -9, -9, -9})
	}
}
