package tests

import (
	"math"
	"slices"
	"strconv"
	"strings"
	"testing"

	"loop.example/g03211/impl"
)

// layoutOf reads the axes of the tensors of a network: "0:2 1:3, -, 1:3" are
// three tensors, the second of which has no axes.
func layoutOf(s string) []axes {
	var layout []axes
	for _, part := range strings.Split(s, ",") {
		var a axes
		for _, field := range strings.Fields(part) {
			label, dim, found := strings.Cut(field, ":")
			if !found {
				continue
			}
			n, _ := strconv.Atoi(label)
			d, _ := strconv.Atoi(dim)
			a.labels, a.dims = append(a.labels, n), append(a.dims, d)
		}
		if strings.TrimSpace(part) != "" {
			layout = append(layout, a)
		}
	}
	return layout
}

// someLayouts are those of networks with few assignments.
var someLayouts = []string{
	"",
	"-",
	"-, -, -",
	"-, -, -, -, -, -, -, -, -, -, -, -",
	"4:3",
	"99:1",
	"7:2 2:3",
	"9:2 4:3 0:4",
	"0:2 1:3, 1:3 2:2",
	"2:2 1:3, 1:3 0:2",
	"3:2, -, 3:2",
	"-, 8:8, -",
	// A triangle, a star and a label in all of the tensors.
	"0:2 1:3, 1:3 2:2, 2:2 0:2",
	"5:2 3:2 8:2, 8:2, 3:2 6:3, 5:2",
	"50:3, 50:3 2:2, 50:3, 2:2 50:3, 50:3",
	"1:2, 1:2, 1:2, 1:2, 1:2, 1:2, 1:2, 1:2, 1:2, 1:2, 1:2, 1:2",
	// The same labels in several orders.
	"7:2 3:3 5:2, 5:2 7:2 3:3, 3:3 5:2 7:2",
	"98:2 0:2, 0:2 98:2",
	// Parts that have no label in common.
	"6:2, 4:3",
	"6:2 5:2, 9:3, 5:2 1:2, -",
	"99:2, 0:2, 98:2, 1:2, 97:2",
	// Labels of dimension 1, and labels in one tensor alone.
	"3:1 4:1, 4:1 5:1",
	"3:1 4:2 0:1, 5:1, 4:2 5:1 3:1, 99:1",
	"10:2 11:2 12:2, 12:2 13:2 14:2",
	// A chain and a ring of MaxTensors tensors.
	"0:2, 0:2 1:2, 1:2 2:1, 2:1 3:2, 3:2 4:2, 4:2 5:1, 5:1 6:2, 6:2 7:1, 7:1 8:2, 8:2 9:1, 9:1 10:2, 10:2",
	"11:2 0:1, 0:1 1:2, 1:2 2:1, 2:1 3:1, 3:1 4:2, 4:2 5:1, 5:1 6:1, 6:1 7:2, 7:2 8:1, 8:1 9:1, 9:1 10:1, 10:1 11:2",
}

// networkFor returns a network over r with these axes.
func networkFor(r impl.Ring, layout []axes, seed int, open []int) impl.Network {
	n := impl.Network{Ring: r, Open: slices.Clone(open)}
	for k, a := range layout {
		n.Tensors = append(n.Tensors, tensorWith(a, elemsFor(r, countOf(a.dims), seed+5*k)))
	}
	return n
}

// networkOf takes the texts to be those of tensors over r.
func networkOf(t *testing.T, r impl.Ring, open []int, texts ...string) impl.Network {
	t.Helper()
	n := impl.Network{Ring: r, Open: open}
	for _, s := range texts {
		tensor, ok := impl.ParseTensor(r, s)
		if !ok {
			t.Fatalf("over %v %q is no tensor", r, s)
		}
		n.Tensors = append(n.Tensors, tensor)
	}
	return n
}

// axesIn returns the labels of a network in ascending order, with their
// dimensions.
func axesIn(n impl.Network) axes {
	var dims values
	for _, t := range n.Tensors {
		for i, label := range t.Labels {
			dims[label] = t.Dims[i]
		}
	}
	var all axes
	for label, d := range dims {
		if d > 0 {
			all.labels, all.dims = append(all.labels, label), append(all.dims, d)
		}
	}
	return all
}

// weigher returns what gives the weight of an assignment.
func weigher(n impl.Network) func(at *values) []int {
	var readers []func(at *values) []int
	for _, t := range n.Tensors {
		readers = append(readers, reader(n.Ring, t))
	}
	return func(at *values) []int {
		weight := impl.OneOf(n.Ring)
		for _, elem := range readers {
			weight = wantedProduct(n.Ring, weight, elem(at))
		}
		return weight
	}
}

// wantedValue follows the text of chapter 13. It takes n to be valid.
func wantedValue(n impl.Network) impl.Tensor {
	all := axesIn(n)
	sums := wantedSums(n.Ring, all, n.Open, weigher(n))
	return wantedPermutation(axesOf(sums), elemsFrom(n.Ring, sums), n.Open)
}

func value(t *testing.T, n impl.Network) impl.Tensor {
	t.Helper()
	got, ok := impl.NetworkValue(n)
	if !ok || !impl.TensorOk(n.Ring, got) {
		t.Errorf("over %v NetworkValue of labels %v with %v open: %t, or no tensor", n.Ring, axesIn(n), n.Open, ok)
	}
	return got
}

func noValue(t *testing.T, n impl.Network) {
	t.Helper()
	got, ok := impl.NetworkValue(n)
	noTensor(t, "NetworkValue of no network, or of one with too much work", got)
	if ok {
		t.Errorf("over %v NetworkValue with %v open gives true", n.Ring, n.Open)
	}
}

func noWeight(t *testing.T, n impl.Network, at []int) {
	t.Helper()
	if got := impl.WeightOf(n, at); got != nil {
		t.Errorf("over %v WeightOf %v: %v, not nil", n.Ring, at, got)
	}
}

// noNetwork looks for the answers of all the functions to a network that is
// not valid.
func noNetwork(t *testing.T, n impl.Network) {
	t.Helper()
	if impl.NetworkOk(n) {
		t.Errorf("NetworkOk of %v is true", n)
	}
	if got := impl.LabelsOf(n); got != nil {
		t.Errorf("LabelsOf of no network: %v", got)
	}
	labels := []int{-1, 0, 1, 3, 4, 99, 100}
	for _, tensor := range n.Tensors[:min(len(n.Tensors), 2)] {
		labels = append(labels, tensor.Labels[:min(len(tensor.Labels), 4)]...)
	}
	for _, label := range labels {
		if d, uses := impl.DimOf(n, label), impl.UsesOf(n, label); d != 0 || uses != nil {
			t.Errorf("DimOf and UsesOf of %d in no network: %d, %v", label, d, uses)
		}
	}
	for length := range 6 {
		noWeight(t, n, make([]int, length))
	}
	noValue(t, n)
}

func TestConstantsOfNetworks(t *testing.T) {
	sameList(t, "the limit", []int{impl.MaxTensors}, []int{12})
}

func TestNetworkValue(t *testing.T) {
	a, b := "0:2 1:2 = 1 2 3 4", "1:2 2:2 = 5 6 0 1"
	x, y := "4:3 8:2 = 1 2 3 4 5 6", "8:2 4:3 = 1 0 2 3 1 4"
	r := modRing(7)
	for _, c := range []struct {
		r       impl.Ring
		tensors []string
		open    []int
		want    string
	}{
		// Two tensors with one label in common.
		{r, []string{a, b}, nil, "= 1"},
		{r, []string{a, b}, []int{0}, "0:2 = 6 2"},
		{r, []string{a, b}, []int{1}, "1:2 = 2 6"},
		{r, []string{a, b}, []int{2}, "2:2 = 6 2"},
		{r, []string{a, b}, []int{0, 2}, "0:2 2:2 = 5 1 1 1"},
		{r, []string{a, b}, []int{1, 0}, "1:2 0:2 = 4 5 2 4"},
		{r, []string{a, b}, []int{2, 1, 0}, "2:2 1:2 0:2 = 5 1 0 0 6 4 2 4"},
		{r, []string{a, b}, []int{1, 2, 0}, "1:2 2:2 0:2 = 5 1 6 4 0 0 2 4"},
		{r, []string{b, a}, []int{1, 2, 0}, "1:2 2:2 0:2 = 5 1 6 4 0 0 2 4"},
		// A chain of three, and a ring.
		{r, []string{a, b, "2:2 3:3 = 1 0 2 3 1 4"}, []int{3, 0}, "3:3 0:2 = 1 4 1 1 0 6"},
		{r, []string{a, b, "2:2 0:2 = 1 3 2 5"}, nil, "= 1"},
		{r, []string{a, b, "2:2 0:2 = 1 3 2 5"}, []int{1}, "1:2 = 5 3"},
		// A label in three tensors.
		{r, []string{"4:3 = 1 2 3", "4:3 = 2 3 4", "4:3 = 5 6 1"}, nil, "= 2"},
		{r, []string{"4:3 = 1 2 3", "4:3 = 2 3 4", "4:3 = 5 6 1"}, []int{4}, "4:3 = 3 1 5"},
		{r, []string{x, y, "4:3 1:2 = 0 1 1 2 3 1"}, []int{1}, "1:2 = 1 0"},
		{r, []string{x, y, "4:3 1:2 = 0 1 1 2 3 1"}, []int{1, 8}, "1:2 8:2 = 2 6 4 3"},
		// Scalars, and tensors without a label in common.
		{r, nil, nil, "= 1"},
		{r, []string{"= 0"}, nil, "= 0"},
		{r, []string{"= 3", "= 5", "= 4"}, nil, "= 4"},
		{r, []string{"= 3", "9:2 = 5 6", "= 2"}, []int{9}, "9:2 = 2 1"},
		{r, []string{"9:2 = 5 6", "3:3 = 1 2 0"}, nil, "= 5"},
		{r, []string{"9:2 = 5 6", "3:3 = 1 2 0"}, []int{3}, "3:3 = 4 1 0"},
		{r, []string{"9:2 = 5 6", "3:3 = 1 2 0"}, []int{3, 9}, "3:3 9:2 = 5 6 3 5 0 0"},
		{r, []string{"9:2 = 5 6", "3:3 = 1 2 0"}, []int{9, 3}, "9:2 3:3 = 5 3 0 6 5 0"},
		// One tensor.
		{r, []string{"9:2 3:3 = 1 2 3 4 5 6"}, []int{9, 3}, "9:2 3:3 = 1 2 3 4 5 6"},
		{r, []string{"9:2 3:3 = 1 2 3 4 5 6"}, []int{3, 9}, "3:3 9:2 = 1 4 2 5 3 6"},
		{r, []string{"9:2 3:3 = 1 2 3 4 5 6"}, []int{9}, "9:2 = 6 1"},
		{r, []string{"9:2 3:3 = 1 2 3 4 5 6"}, nil, "= 0"},
		// The other rings.
		{capRing(9), nil, nil, "= 1"},
		{capRing(9), []string{a, b}, nil, "= 9"},
		{capRing(9), []string{a, b}, []int{2, 0}, "2:2 0:2 = 5 9 8 9"},
		{minRing(9), nil, nil, "= 0"},
		{minRing(9), []string{a, b}, nil, "= 2"},
		{minRing(9), []string{a, b}, []int{0}, "0:2 = 2 4"},
		{minRing(9), []string{a, b}, []int{2, 0}, "2:2 0:2 = 2 4 3 5"},
		{minRing(6), []string{"0:3 1:2 = 1 5 2 0 6 3", "1:2 2:2 = 4 1 2 6"}, []int{2, 0}, "2:2 0:3 = 5 2 5 2 3 6"},
		{wideRing(9), nil, nil, "= 9"},
		{wideRing(9), []string{a, b}, []int{0}, "0:2 = 1 3"},
		{wideRing(9), []string{a, b}, []int{2, 0}, "2:2 0:2 = 1 3 1 3"},
		{setRing(3), nil, nil, "= 7"},
		{setRing(3), []string{a, b}, nil, "= 3"},
		{setRing(3), []string{a, b}, []int{2, 0}, "2:2 0:2 = 1 1 0 2"},
		{boolRing(), []string{"3:2 1:2 = 1 0 1 1", "1:2 8:2 = 0 1 1 0"}, []int{8, 3}, "8:2 3:2 = 0 1 1 1"},
		{boolRing(), []string{"3:2 1:2 = 1 0 1 1", "1:2 8:2 = 0 0 1 0"}, nil, "= 1"},
		{polyRing(7, 2), nil, nil, "= 1,0"},
		{polyRing(7, 2), []string{"0:2 = 1,2 3,4", "0:2 = 5,6 0,1"}, []int{0}, "0:2 = 5,2 0,3"},
		{polyRing(7, 2), []string{"0:2 = 1,2 3,4", "0:2 = 5,6 0,1"}, nil, "= 5,5"},
		{omegaRing(17), nil, nil, "= 1,0,0,0"},
		{omegaRing(17), []string{"4:2 = 1,2,3,4 1,0,0,0", "4:2 = 0,1,0,0 0,0,0,5"}, nil, "= 13,1,2,8"},
	} {
		n := networkOf(t, c.r, c.open, c.tensors...)
		if got := impl.FormatTensor(c.r, value(t, n)); got != c.want {
			t.Errorf("over %v the value of %q with %v open: %q, not %q", c.r, c.tensors, c.open, got, c.want)
		}
	}
}

func TestLabelsOfNetworks(t *testing.T) {
	for _, c := range []struct {
		tensors []string
		labels  []int
		dims    []int
		uses    [][]int
	}{
		{nil, nil, nil, nil},
		{[]string{"= 1", "= 1"}, nil, nil, nil},
		{[]string{"99:2 0:1 = 1 0"}, []int{0, 99}, []int{1, 2}, [][]int{{0}, {0}}},
		{[]string{"5:2 3:1 = 1 0", "= 1", "4:3 5:2 = 1 1 1 0 0 0", "5:2 = 1 1"}, []int{3, 4, 5}, []int{1, 3, 2}, [][]int{{0}, {2}, {0, 2, 3}}},
		{[]string{"7:1 = 1", "2:8 = 1 1 1 1 0 0 0 0", "7:1 = 0"}, []int{2, 7}, []int{8, 1}, [][]int{{1}, {0, 2}}},
		{[]string{"10:1 9:1 = 1", "9:1 11:1 = 1", "11:1 10:1 9:1 = 1"}, []int{9, 10, 11}, []int{1, 1, 1}, [][]int{{0, 1, 2}, {0, 2}, {1, 2}}},
	} {
		// Which labels are open makes no difference.
		n := networkOf(t, boolRing(), backward(c.labels), c.tensors...)
		sameList(t, "the labels", impl.LabelsOf(n), c.labels)
		for label := -3; label <= 103; label++ {
			d, uses := 0, []int(nil)
			if k := slices.Index(c.labels, label); k >= 0 {
				d, uses = c.dims[k], c.uses[k]
			}
			if got := impl.DimOf(n, label); got != d {
				t.Errorf("DimOf of %d in %q: %d, not %d", label, c.tensors, got, d)
			}
			sameList(t, "the tensors with a label", impl.UsesOf(n, label), uses)
		}
	}
}

func TestWeightOf(t *testing.T) {
	n := networkOf(t, modRing(7), []int{0, 2}, "2:2 0:2 = 1 2 3 4", "1:3 2:2 = 5 6 0 1 2 3", "= 3")
	for _, c := range []struct {
		at   []int
		want int
	}{
		{[]int{0, 0, 0}, 1}, // 1 times 5 times 3
		{[]int{1, 0, 0}, 2}, // 2 times 5 times 3
		{[]int{0, 1, 0}, 0},
		{[]int{0, 0, 1}, 5}, // 3 times 6 times 3
		{[]int{1, 2, 0}, 5}, // 2 times 2 times 3
		{[]int{0, 1, 1}, 2}, // 3 times 1 times 3
		{[]int{1, 2, 1}, 1}, // 4 times 3 times 3
	} {
		sameList(t, "a weight", impl.WeightOf(n, c.at), []int{c.want})
	}
	for _, at := range [][]int{nil, {0}, {0, 0}, {0, 0, 0, 0}, {2, 0, 0}, {0, 3, 0}, {0, 0, 2}, {1, 1, 2}, {-1, 0, 0}, {0, -1, 0}, {0, 0, -1}} {
		noWeight(t, n, at)
	}
	scalars := networkOf(t, polyRing(7, 2), nil, "= 1,2", "= 3,4")
	sameList(t, "the weight of scalars", impl.WeightOf(scalars, nil), []int{3, 3})
	sameList(t, "the weight of scalars", impl.WeightOf(scalars, []int{}), []int{3, 3})
	noWeight(t, scalars, []int{0})
	for _, c := range ringCases {
		empty := impl.Network{Ring: c.r}
		sameList(t, "the weight without tensors", impl.WeightOf(empty, nil), c.one)
		noWeight(t, empty, []int{0})
		sameTensor(t, "the value without tensors", value(t, empty), impl.Tensor{Data: c.one})
		if got := impl.LabelsOf(empty); len(got) != 0 || !impl.NetworkOk(empty) {
			t.Errorf("the network over %v without tensors: labels %v", c.r, got)
		}
	}
}

// someOpens returns lists of these labels in several orders, all of them if
// there are few.
func someOpens(labels []int) [][]int {
	var opens [][]int
	parts := subsets(labels)
	if len(labels) > 4 {
		parts = [][]int{nil, labels[:1], labels[len(labels)-1:], labels[1:4], labels[len(labels)-3:], labels}
	}
	for _, part := range parts {
		if len(part) <= 3 {
			opens = append(opens, allOrders(part)...)
		} else {
			opens = append(opens, someOrders(part)...)
		}
	}
	return opens
}

func TestValuesOfManyNetworks(t *testing.T) {
	t.Parallel()
	for j, r := range fullRings() {
		for i, s := range someLayouts {
			layout := layoutOf(s)
			n := networkFor(r, layout, i+j, nil)
			opens := someOpens(axesIn(n).labels)
			for k, open := range opens {
				if len(opens) > 20 && (k+j)%7 != 0 {
					// Every list comes over some of the rings.
					continue
				}
				n.Open = open
				if !impl.NetworkOk(n) {
					t.Errorf("NetworkOk of %q with %v open is false", s, open)
				}
				sameTensor(t, "the value of a network", value(t, n), wantedValue(n))
				if t.Failed() {
					t.Fatalf("over %v of %q with %v open", r, s, open)
				}
			}
		}
	}
}

// The definition of the value: each element is the sum of the weights of the
// assignments with its index values.
func TestWeightsSumUpToTheValue(t *testing.T) {
	t.Parallel()
	for j, r := range fullRings() {
		for i, s := range someLayouts {
			n := networkFor(r, layoutOf(s), 3*i+j, nil)
			all := axesIn(n)
			opens := someOpens(all.labels)
			n.Open = opens[(i+j)%len(opens)]
			var dims []int
			for _, label := range n.Open {
				dims = append(dims, impl.DimOf(n, label))
			}
			weights := make([][][]int, countOf(dims))
			wanted := weigher(n)
			eachValue(all, func(at *values) {
				var list []int
				for _, label := range all.labels {
					list = append(list, at[label])
				}
				weight := impl.WeightOf(n, list)
				sameList(t, "a weight", weight, wanted(at))
				k := placeIn(axes{n.Open, dims}, at)
				weights[k] = append(weights[k], weight)
			})
			var data []int
			for _, l := range weights {
				data = append(data, impl.SumElems(r, l)...)
			}
			sameTensor(t, "the value of a network", value(t, n), impl.Tensor{Labels: n.Open, Dims: dims, Data: data})
			if t.Failed() {
				t.Fatalf("over %v of %q with %v open", r, s, n.Open)
			}
		}
	}
}

func TestLabelsOfManyNetworks(t *testing.T) {
	for i, s := range someLayouts {
		r := fullRings()[i%len(fullRings())]
		n := networkFor(r, layoutOf(s), i, nil)
		all := axesIn(n)
		n.Open = rotated(all.labels, i)[:len(all.labels)/2]
		sameList(t, "the labels of "+s, impl.LabelsOf(n), all.labels)
		for label := -2; label <= 102; label++ {
			var uses []int
			for k, tensor := range n.Tensors {
				if slices.Contains(tensor.Labels, label) {
					uses = append(uses, k)
				}
			}
			sameList(t, "the uses of a label of "+s, impl.UsesOf(n, label), uses)
			want := 0
			if k := slices.Index(all.labels, label); k >= 0 {
				want = all.dims[k]
			}
			if got := impl.DimOf(n, label); got != want {
				t.Errorf("DimOf of %d in %q: %d, not %d", label, s, got, want)
			}
		}
		for _, label := range []int{math.MinInt, -100, 100, 200, 1 << 32, 1<<32 + 4, math.MaxInt} {
			if d, uses := impl.DimOf(n, label), impl.UsesOf(n, label); d != 0 || uses != nil {
				t.Errorf("DimOf and UsesOf of %d in %q: %d, %v", label, s, d, uses)
			}
		}
	}
}

func TestListsThatAreNoAssignments(t *testing.T) {
	for i, s := range someLayouts {
		r := fullRings()[i%len(fullRings())]
		n := networkFor(r, layoutOf(s), i, nil)
		all := axesIn(n)
		wanted := weigher(n)
		least, greatest := make([]int, len(all.dims)), slices.Clone(all.dims)
		var atLeast, atGreatest values
		for k, label := range all.labels {
			greatest[k]--
			atGreatest[label] = greatest[k]
		}
		sameList(t, "the weight of the least values", impl.WeightOf(n, least), wanted(&atLeast))
		sameList(t, "the weight of the greatest values", impl.WeightOf(n, greatest), wanted(&atGreatest))
		for _, list := range [][]int{least, greatest} {
			noWeight(t, n, append(slices.Clone(list), 0))
			noWeight(t, n, append([]int{0}, list...))
			noWeight(t, n, slices.Concat(list, make([]int, 100)))
			for k := range list {
				noWeight(t, n, list[:k])
				noWeight(t, n, list[k+1:])
				for _, bad := range notValues(all.dims[k]) {
					changed := slices.Clone(list)
					changed[k] = bad
					noWeight(t, n, changed)
				}
			}
		}
	}
}

// isNetwork follows the text of chapter 13.
func isNetwork(n impl.Network) bool {
	if !isRing(n.Ring) || len(n.Tensors) > 12 {
		return false
	}
	dims := map[int]int{}
	for _, tensor := range n.Tensors {
		size := wantedSize(axesOf(tensor))
		if size < 0 || len(tensor.Data) != size*impl.RingWidth(n.Ring) {
			return false
		}
		for i, label := range tensor.Labels {
			if d := dims[label]; d != 0 && d != tensor.Dims[i] {
				return false
			}
			dims[label] = tensor.Dims[i]
		}
		for _, x := range tensor.Data {
			if x < 0 || x > topOf(n.Ring) {
				return false
			}
		}
	}
	open := axes{labels: n.Open}
	for _, label := range n.Open {
		if dims[label] == 0 {
			return false
		}
		open.dims = append(open.dims, dims[label])
	}
	return wantedSize(open) > 0
}

// Every list of up to three of these tensors, which do not all suit each other,
// with every short list of open labels.
func TestNetworkOkOfAllSmallNetworks(t *testing.T) {
	t.Parallel()
	pool := []impl.Tensor{point(1), line(0, 2, 1, 0), line(0, 1, 1), square(1, 0, 1, 1, 0, 1), line(1, 2, 0, 1), line(0, 2, 1, 2)}
	numbers := []int{0, 1, 2, 3, 4, 5}
	right := 0
	for _, chosen := range listsOf(3, numbers...) {
		n := impl.Network{Ring: boolRing()}
		for _, k := range chosen {
			n.Tensors = append(n.Tensors, pool[k])
		}
		for _, open := range listsOf(2, -1, 0, 1, 2, 100) {
			n.Open = open
			want := isNetwork(n)
			if got := impl.NetworkOk(n); got != want {
				t.Fatalf("NetworkOk of %v: %t", n, got)
			}
			if want {
				right++
				sameTensor(t, "the value of a network", value(t, n), wantedValue(n))
			} else {
				noNetwork(t, n)
			}
		}
	}
	if right < 300 {
		t.Errorf("only %d networks are valid", right)
	}
}

func TestNumbersOfTensors(t *testing.T) {
	for _, r := range []impl.Ring{boolRing(), capRing(1000000), omegaRing(17)} {
		for _, tensor := range []impl.Tensor{{Data: impl.OneOf(r)}, {Labels: []int{4}, Dims: []int{2}, Data: slices.Repeat(impl.OneOf(r), 2)}} {
			for count := range 30 {
				n := impl.Network{Ring: r, Tensors: slices.Repeat([]impl.Tensor{tensor}, count)}
				if count > 12 {
					noNetwork(t, n)
					continue
				}
				if !impl.NetworkOk(n) {
					t.Errorf("over %v NetworkOk with %d tensors is false", r, count)
				}
				sameTensor(t, "the value of many tensors", value(t, n), wantedValue(n))
			}
		}
	}
}

func TestLabelsWithTwoDimensions(t *testing.T) {
	r := boolRing()
	for count := 2; count <= 12; count++ {
		for other := range count {
			n := impl.Network{Ring: r}
			for k := range count {
				tensor := ones(axes{[]int{k, 50, 99 - k}, []int{1, 2, 2}})
				if k == other {
					tensor = ones(axes{[]int{k, 50, 99 - k}, []int{1, 3, 2}})
				}
				n.Tensors = append(n.Tensors, tensor)
			}
			noNetwork(t, n)
			n.Open = []int{50}
			noNetwork(t, n)
			// With another label this tensor is right.
			n.Tensors[other].Labels[1] = 51
			n.Open = nil
			if !impl.NetworkOk(n) || impl.DimOf(n, 51) != 3 || impl.DimOf(n, 50) != 2 {
				t.Errorf("NetworkOk of %v: %t", n, impl.NetworkOk(n))
			}
		}
	}
	// Tensors of the same size, and a label that stands at different places.
	noNetwork(t, networkOf(t, r, nil, "1:2 2:3 = 1 1 1 1 1 1", "1:3 2:2 = 1 1 1 1 1 1"))
	noNetwork(t, networkOf(t, r, nil, "1:2 2:3 = 1 1 1 1 1 1", "3:2 2:1 = 1 1"))
	noNetwork(t, networkOf(t, r, nil, "1:1 = 1", "1:2 = 1 1"))
	noNetwork(t, networkOf(t, r, nil, "1:2 = 1 1", "= 1", "1:1 = 1"))
}

func TestOpenLabels(t *testing.T) {
	r := capRing(1000000)
	n := networkOf(t, r, nil, "3:2 7:1 = 1 2", "7:1 0:3 = 3 4 5", "99:2 = 6 7")
	for _, open := range [][]int{nil, {}, {3}, {0, 3}, {99, 7, 3, 0}, {0, 3, 7, 99}, {7}, {99, 0}} {
		n.Open = open
		if !impl.NetworkOk(n) {
			t.Errorf("NetworkOk with %v open is false", open)
		}
		sameTensor(t, "the value of a network", value(t, n), wantedValue(n))
	}
	for _, open := range [][]int{
		{1}, {-1}, {100}, {4}, {98}, {math.MinInt}, {math.MaxInt}, {1<<32 + 3}, {3, 3}, {7, 7}, {0, 3, 0}, {3, 1}, {1, 3},
		{3, 7, 0, 99, 3}, {3, 7, 0, 99, 1}, {0, 3, 7, 99, -1}, make([]int, 13), slices.Repeat([]int{7}, 1000),
	} {
		n.Open = open
		noNetwork(t, n)
	}
	for label := -2; label <= 102; label++ {
		n.Open = []int{label}
		want := label == 0 || label == 3 || label == 7 || label == 99
		if got := impl.NetworkOk(n); got != want {
			t.Errorf("NetworkOk with %d open: %t", label, got)
		}
	}
	empty := impl.Network{Ring: r, Open: []int{0}}
	noNetwork(t, empty)
	empty.Tensors = []impl.Tensor{point(1), point(2)}
	noNetwork(t, empty)
}

func TestLimitsOfOpenLabels(t *testing.T) {
	r := capRing(1000000)
	// The rank.
	for rank := range 30 {
		labels := labelsFrom(9, rank)
		n := impl.Network{Ring: r, Open: labels}
		for start := 0; start < rank; start += 8 {
			n.Tensors = append(n.Tensors, ones(axes{labels[start:min(start+8, rank)], slices.Repeat([]int{1}, min(8, rank-start))}))
		}
		if rank > 12 {
			noNetwork(t, n)
			n.Open = n.Open[:12]
		}
		if !impl.NetworkOk(n) {
			t.Errorf("NetworkOk with %d open labels of %d is false", len(n.Open), rank)
		}
		sameTensor(t, "a value of dimensions 1", value(t, n), ones(axes{n.Open, slices.Repeat([]int{1}, len(n.Open))}))
	}
	// The size.
	for _, c := range []struct {
		first  []int
		second []int
	}{
		{[]int{8, 8}, []int{8, 8}},
		{[]int{8, 8, 8}, []int{7, 1}},
		{[]int{8, 8}, []int{4, 4, 4, 1}},
		{slices.Repeat([]int{2}, 6), slices.Repeat([]int{2}, 6)},
		{[]int{5, 5, 5}, []int{5, 6}},
		{[]int{8, 8, 8}, []int{8, 2}},
		{[]int{5, 5, 5}, []int{5, 7}},
		{[]int{4, 4, 4}, []int{4, 4, 5}},
		{[]int{2, 8, 8}, []int{8, 8}},
		{[]int{8, 8, 8, 8}, []int{8, 8, 8, 8}},
		{[]int{4, 8, 8, 8}, []int{8, 8, 8, 8}},
		{slices.Repeat([]int{2}, 6), append(slices.Repeat([]int{2}, 5), 3)},
	} {
		labels := labelsFrom(21, len(c.first)+len(c.second))
		n := impl.Network{Ring: r, Tensors: []impl.Tensor{
			ones(axes{labels[:len(c.first)], c.first}),
			ones(axes{labels[len(c.first):], c.second}),
		}}
		n.Open = backward(labels)
		if dims := slices.Concat(c.first, c.second); countOf(dims) > 4096 {
			noNetwork(t, n)
			continue
		}
		got := value(t, n)
		sameTensor(t, "a value of open labels", got, ones(axes{n.Open, backward(slices.Concat(c.first, c.second))}))
	}
}

func TestNetworksOfWrongTensors(t *testing.T) {
	t.Parallel()
	surround := func(r impl.Ring, tensor impl.Tensor) []impl.Network {
		good := impl.Tensor{Labels: []int{freeLabel}, Dims: []int{1}, Data: impl.OneOf(r)}
		return []impl.Network{
			{Ring: r, Tensors: []impl.Tensor{tensor}},
			{Ring: r, Tensors: []impl.Tensor{tensor, good}, Open: []int{freeLabel}},
			{Ring: r, Tensors: []impl.Tensor{good, tensor}},
			{Ring: r, Tensors: append(slices.Repeat([]impl.Tensor{good}, 11), tensor)},
		}
	}
	for _, a := range notAxes {
		for _, data := range [][]int{nil, {0}, dataOf(a.dims)} {
			for _, n := range surround(boolRing(), impl.Tensor{Labels: a.labels, Dims: a.dims, Data: data}) {
				noNetwork(t, n)
			}
		}
	}
	for j, r := range fullRings() {
		for i, c := range axesCases {
			if c.size > 100 && (i+j)%7 != 0 {
				continue
			}
			for k, wrong := range withWrongData(r, tensorWith(c.axes, elemsFor(r, c.size, i))) {
				noNetwork(t, surround(r, wrong)[(i+j+k)%4])
			}
		}
	}
	for _, wrong := range brokenTensors {
		for _, n := range surround(polyRing(7, 2), wrong) {
			noNetwork(t, n)
		}
	}
	// Valid over another ring only.
	noNetwork(t, impl.Network{Ring: modRing(5), Tensors: []impl.Tensor{point(4), point(5)}})
	noNetwork(t, impl.Network{Ring: polyRing(7, 2), Tensors: []impl.Tensor{point(4, 0), point(5)}})
	noNetwork(t, impl.Network{Ring: modRing(7), Tensors: []impl.Tensor{point(4, 0), point(5)}})
	noNetwork(t, impl.Network{Ring: boolRing(), Tensors: []impl.Tensor{{}}})
}

func TestNetworksOverInvalidRings(t *testing.T) {
	for _, r := range notRings {
		noNetwork(t, impl.Network{Ring: r})
		noNetwork(t, impl.Network{Ring: r, Open: []int{0}})
		for _, data := range [][]int{nil, {0}, {1}, {0, 0}, {1, 0, 0, 0}} {
			noNetwork(t, impl.Network{Ring: r, Tensors: []impl.Tensor{{Data: data}}})
			noNetwork(t, impl.Network{Ring: r, Tensors: []impl.Tensor{{Labels: []int{3}, Dims: []int{1}, Data: data}}, Open: []int{3}})
		}
	}
	noNetwork(t, impl.Network{})
}

// blocks returns tensors of ones with these dimensions, all with labels of
// their own, which are counted from 0.
func blocks(dims ...[]int) impl.Network {
	n := impl.Network{Ring: capRing(1000000)}
	next := 0
	for _, l := range dims {
		labels := make([]int, len(l))
		for i := range l {
			labels[i] = next
			next++
		}
		n.Tensors = append(n.Tensors, ones(axes{labels, l}))
	}
	return n
}

func TestWorkLimitOfNetworks(t *testing.T) {
	t.Parallel()
	eights, twos := slices.Repeat([]int{8}, 4), slices.Repeat([]int{2}, 4)
	for _, c := range []struct {
		dims  [][]int
		count int
	}{
		{[][]int{eights, {8, 2}}, 65536},
		{[][]int{{2}, eights, {8}}, 65536},
		{[][]int{{4, 4}, {4, 4}, {4, 4}, {4, 4}}, 65536},
		{[][]int{twos, twos, twos, twos}, 65536},
		{[][]int{twos, {1}, twos, {}, twos, {1, 1}, twos}, 65536},
		{[][]int{{8}, {2}, {2}, {2}, {2}, {2}, {2}, {2}, {2}, {2}, {2}, {8}}, 65536},
		{[][]int{{5, 5, 5}, {5, 5}, {5, 4}}, 62500},
		{[][]int{{3, 5, 5}, {5, 5}, {5, 7}}, 65625},
		{[][]int{{2, 5, 3, 3}, {3, 3, 3, 3, 3, 3}}, 65610},
		{[][]int{eights, {8, 3}}, 98304},
		{[][]int{twos, twos, twos, twos, {2}}, 131072},
		{[][]int{{2}, twos, twos, twos, twos}, 131072},
		{[][]int{eights, eights}, 1 << 24},
	} {
		n := blocks(c.dims...)
		if !impl.NetworkOk(n) {
			t.Errorf("NetworkOk with %d assignments is false", c.count)
		}
		if c.count > 65536 {
			noValue(t, n)
			n.Open = []int{0}
			noValue(t, n)
			continue
		}
		sameTensor(t, "the number of assignments", value(t, n), point(c.count))
		n.Open = []int{0}
		d := n.Tensors[0].Dims[0]
		sameTensor(t, "the number of assignments", value(t, n), impl.Tensor{Labels: []int{0}, Dims: []int{d}, Data: slices.Repeat([]int{c.count / d}, d)})
	}
	// A label that several tensors have counts once.
	n := blocks(eights, []int{8, 2})
	n.Tensors = append(n.Tensors, n.Tensors[0], n.Tensors[1], ones(axes{[]int{5, 0}, []int{2, 8}}))
	sameTensor(t, "the number of assignments", value(t, n), point(65536))
	n.Tensors = append(n.Tensors, ones(axes{[]int{5, 6}, []int{2, 2}}))
	noValue(t, n)
	// Just as many assignments, with as many open labels as there may be.
	n = blocks(twos, twos, twos, twos)
	n.Open = []int{15, 3, 2, 9, 8, 7, 6, 1, 0, 14, 13, 12}
	sameTensor(t, "the numbers of assignments", value(t, n), impl.Tensor{Labels: n.Open, Dims: slices.Repeat([]int{2}, 12), Data: slices.Repeat([]int{16}, 4096)})
}

// Numbers of assignments that an int does not hold, some of which would be 0 or
// small again if they overflowed.
func TestHugeNumbersOfAssignments(t *testing.T) {
	eights := slices.Repeat([]int{8}, 4)
	for _, last := range [][]int{{}, {1}, {2}, {4}, {8}, {8, 2}, {8, 8}, {8, 8, 8}, eights, {7, 7}, {3, 5}} {
		for count := 2; count <= 11; count++ {
			n := blocks(append(slices.Repeat([][]int{eights}, count), last)...)
			if !impl.NetworkOk(n) || len(impl.LabelsOf(n)) != 4*count+len(last) {
				t.Errorf("NetworkOk of %d labels is false", 4*count+len(last))
			}
			noValue(t, n)
			n.Open = []int{2, 3, 4*count - 1}
			noValue(t, n)
			dims := slices.Concat(slices.Repeat([]int{8}, 4*count), last)
			least, greatest := make([]int, len(dims)), slices.Clone(dims)
			for i := range greatest {
				greatest[i]--
			}
			for _, at := range [][]int{least, greatest} {
				sameList(t, "a weight", impl.WeightOf(n, at), []int{1})
				noWeight(t, n, at[1:])
				noWeight(t, n, append(slices.Clone(at), 0))
				noWeight(t, n, append(slices.Clone(at[1:]), dims[len(dims)-1]))
			}
		}
	}
}

// As many labels as there are.
func TestAllLabelsAtOnce(t *testing.T) {
	n := impl.Network{Ring: modRing(7)}
	labels := labelsFrom(17, 100)
	for start := 0; start < 100; start += 9 {
		part := labels[start:min(start+9, 100)]
		dims := slices.Repeat([]int{1}, len(part))
		dims[0] = 1 + start/9%2
		n.Tensors = append(n.Tensors, tensorWith(axes{part, dims}, elemsFor(n.Ring, countOf(dims), start)))
	}
	all := axesIn(n)
	sameList(t, "the labels", impl.LabelsOf(n), all.labels)
	if len(all.labels) != 100 || len(n.Tensors) != 12 {
		t.Fatalf("%d labels in %d tensors", len(all.labels), len(n.Tensors))
	}
	n.Open = labels[8:20]
	sameTensor(t, "the value of a network", value(t, n), wantedValue(n))
	var at values
	sameList(t, "a weight", impl.WeightOf(n, make([]int, 100)), weigher(n)(&at))
	noWeight(t, n, make([]int, 99))
	noWeight(t, n, make([]int, 101))
}

func TestLawsOfValues(t *testing.T) {
	t.Parallel()
	for j, r := range fullRings() {
		for i, s := range someLayouts {
			n := networkFor(r, layoutOf(s), i+2*j, nil)
			opens := someOpens(axesIn(n).labels)
			n.Open = opens[(i+3*j)%len(opens)]
			want := value(t, n)
			// The order of the tensors, that of their axes and that of Open.
			other := impl.Network{Ring: r, Tensors: slices.Clone(n.Tensors), Open: backward(n.Open)}
			slices.Reverse(other.Tensors)
			for k, tensor := range other.Tensors {
				other.Tensors[k] = permute(t, r, tensor, rotated(tensor.Labels, k+1))
			}
			sameTensor(t, "the value of a turned network", value(t, other), permute(t, r, want, other.Open))
			// What is not open is summed out.
			closed := impl.Network{Ring: r, Tensors: n.Tensors, Open: n.Open[:len(n.Open)/2]}
			sameTensor(t, "the value with fewer open labels", value(t, closed), summed(t, r, want, closed.Open))
			if len(n.Tensors) == 0 {
				continue
			}
			// A scaled tensor, and a sum of two tensors.
			x := elemsFor(r, 3, i)[2]
			k := (i + j) % len(n.Tensors)
			changed := impl.Network{Ring: r, Tensors: slices.Clone(n.Tensors), Open: n.Open}
			changed.Tensors[k] = scaled(t, r, n.Tensors[k], x)
			sameTensor(t, "the value of a scaled network", value(t, changed), scaled(t, r, want, x))
			tensor := tensorWith(axesOf(n.Tensors[k]), elemsFor(r, countOf(n.Tensors[k].Dims), i+3))
			changed.Tensors[k] = tensor
			second := value(t, changed)
			changed.Tensors[k] = plusTensors(t, r, n.Tensors[k], tensor)
			sameTensor(t, "the value of a sum", value(t, changed), plusTensors(t, r, want, second))
			if t.Failed() {
				t.Fatalf("over %v of %q with %v open", r, s, n.Open)
			}
		}
	}
}

func TestValuesOfOneAndTwoTensors(t *testing.T) {
	t.Parallel()
	for j, r := range fullRings() {
		for i, c := range axesCases {
			if c.size > 100 && (i+j)%7 != 0 {
				continue
			}
			tensor := tensorWith(c.axes, elemsFor(r, c.size, i))
			n := impl.Network{Ring: r, Tensors: []impl.Tensor{tensor}, Open: backward(c.labels)}
			sameTensor(t, "the value of a tensor", value(t, n), permute(t, r, tensor, n.Open))
			n.Open = rotated(c.labels, 2)[:len(c.labels)/2]
			sameTensor(t, "the value of a tensor", value(t, n), permute(t, r, summed(t, r, tensor, n.Open), n.Open))
		}
		for i, c := range somePairs {
			n := networkFor(r, c[:], i, nil)
			for k, keep := range someKeeps(c[0], c[1]) {
				join, _ := wantedJoin(c[0], c[1])
				rest, kept := without(join, keep)
				if (i+j+k)%9 != 0 || len(rest.labels) == 0 {
					continue
				}
				n.Open = kept.labels
				sameTensor(t, "the value of a pair", value(t, n), pair(t, r, n.Tensors[0], n.Tensors[1], keep))
			}
		}
	}
}

func TestMapsKeepValues(t *testing.T) {
	t.Parallel()
	for k, c := range slices.Concat(smallHoms(), greatHoms()) {
		for i, s := range someLayouts {
			if (i+k)%9 != 0 {
				continue
			}
			n := networkFor(c.from, layoutOf(s), i+k, nil)
			opens := someOpens(axesIn(n).labels)
			n.Open = opens[k%len(opens)]
			image := impl.Network{Ring: c.to, Open: n.Open}
			for _, tensor := range n.Tensors {
				image.Tensors = append(image.Tensors, mapped(t, c, tensor))
			}
			sameTensor(t, "the value of an image", value(t, image), mapped(t, c, value(t, n)))
			if t.Failed() {
				t.Fatalf("%v of %q with %v open", c, s, n.Open)
			}
		}
	}
}

// spareNetwork returns a copy of n with room behind all its lists.
func spareNetwork(n impl.Network) impl.Network {
	spare := impl.Network{Ring: n.Ring, Open: withSpare(n.Open, -9)}
	for _, tensor := range n.Tensors {
		spare.Tensors = append(spare.Tensors, spareTensor(tensor))
	}
	spare.Tensors = withSpare(spare.Tensors, impl.Tensor{Labels: []int{-9}})
	return spare
}

// networkStays takes the first network to be made by spareNetwork from the
// second one.
func networkStays(t *testing.T, spare impl.Network, before impl.Network) {
	t.Helper()
	if spare.Ring != before.Ring || len(spare.Tensors) != len(before.Tensors) || len(spare.Open) != len(before.Open) {
		t.Fatalf("a network has become %v", spare)
	}
	sameList(t, "the open labels", spare.Open[:len(spare.Open)+3], append(slices.Clone(before.Open), -9, -9, -9))
	for k, tensor := range before.Tensors {
		stays(t, "a part of a tensor of a network", spare.Tensors[k], tensor)
	}
	for _, tensor := range spare.Tensors[len(spare.Tensors) : len(spare.Tensors)+3] {
		sameTensor(t, "what is behind the tensors", tensor, impl.Tensor{Labels: []int{-9}})
	}
}

func TestNetworksStay(t *testing.T) {
	t.Parallel()
	for j, r := range fullRings() {
		for i, s := range someLayouts {
			before := networkFor(r, layoutOf(s), i+j, nil)
			all := axesIn(before)
			opens := someOpens(all.labels)
			before.Open = opens[(2*i+j)%len(opens)]
			n := spareNetwork(before)
			at := withSpare(make([]int, len(all.labels)), -9)
			var least values
			weight, tensor := weigher(before)(&least), wantedValue(before)
			for range 2 {
				// What the results share with an argument changes here.
				if !impl.NetworkOk(n) {
					t.Errorf("NetworkOk of %q is false", s)
				}
				labels := impl.LabelsOf(n)
				sameList(t, "the labels", labels, all.labels)
				spoil(labels, -5)
				for k, label := range all.labels {
					if got := impl.DimOf(n, label); got != all.dims[k] {
						t.Errorf("DimOf of %d: %d", label, got)
					}
					spoil(impl.UsesOf(n, label), -5)
				}
				got := impl.WeightOf(n, at)
				sameList(t, "a weight", got, weight)
				spoil(got, -5)
				result := value(t, n)
				sameTensor(t, "the value", result, tensor)
				spoilTensor(result)
			}
			networkStays(t, n, before)
			sameList(t, "an assignment", at[:len(at)+3], append(make([]int, len(at)), -9, -9, -9))
			if t.Failed() {
				t.Fatalf("over %v of %q with %v open", r, s, n.Open)
			}
		}
	}
}

// One tensor with all its labels open is its own value, but the value is new.
func TestPartsOfValuesAreApart(t *testing.T) {
	r := capRing(1)
	l := []int{1}
	n := impl.Network{Ring: r, Tensors: []impl.Tensor{{Labels: l, Dims: l, Data: l}}, Open: l}
	one, two := value(t, n), value(t, n)
	n.Tensors = append(n.Tensors, n.Tensors[0])
	partsApart(t, l, one, two, value(t, n))
	for _, got := range [][]int{impl.LabelsOf(n), impl.WeightOf(n, []int{0}), impl.UsesOf(n, 1)} {
		spoil(got, 7)
	}
	sameList(t, "the list", l, []int{1})
	scalar := impl.Network{Ring: r, Tensors: []impl.Tensor{{Data: l}}}
	spoil(impl.WeightOf(scalar, nil), 7)
	spoilTensor(value(t, scalar))
	sameList(t, "the list", l, []int{1})
}

// Tensors may share memory with each other and with Open.
func TestNetworksInCommonMemory(t *testing.T) {
	l := []int{1, 2, 1, 2}
	n := impl.Network{Ring: modRing(7), Tensors: []impl.Tensor{{Labels: l[:2], Dims: l[:2], Data: l[:2]}, {Labels: l[1:3], Dims: l[1:3], Data: l[2:]}}, Open: l[1:3]}
	sameTensor(t, "a value", value(t, n), impl.Tensor{Labels: []int{2, 1}, Dims: []int{2, 1}, Data: []int{1, 4}})
	sameList(t, "a weight", impl.WeightOf(n, []int{0, 1}), []int{4})
	sameList(t, "the list", l, []int{1, 2, 1, 2})
}

// wrongNetworks are not valid, each for another reason.
func wrongNetworks() []impl.Network {
	r := polyRing(7, 2)
	good := impl.Tensor{Labels: []int{4, 3}, Dims: []int{2, 1}, Data: []int{1, 2, 3, 4}}
	nets := []impl.Network{
		{Ring: r, Tensors: []impl.Tensor{good, {Labels: []int{4}, Dims: []int{1}, Data: []int{1, 2}}}, Open: []int{3}},
		{Ring: r, Tensors: []impl.Tensor{good}, Open: []int{3, 3}},
		{Ring: r, Tensors: []impl.Tensor{good}, Open: []int{3, 5}},
		{Tensors: []impl.Tensor{good}, Open: []int{3}},
		{Ring: r, Tensors: slices.Repeat([]impl.Tensor{good}, 13)},
	}
	for _, wrong := range brokenTensors {
		nets = append(nets, impl.Network{Ring: r, Tensors: []impl.Tensor{good, wrong}, Open: []int{4}})
	}
	// Open with too many labels, and with too great dimensions.
	many, large := blocks(slices.Repeat([]int{1}, 12), []int{1}), blocks([]int{8, 8, 8}, []int{8, 2})
	many.Open, large.Open = countUp(13), countUp(5)
	return append(nets, many, large)
}

func TestInvalidNetworksStay(t *testing.T) {
	for _, before := range wrongNetworks() {
		n := spareNetwork(before)
		noNetwork(t, n)
		networkStays(t, n, before)
	}
}
