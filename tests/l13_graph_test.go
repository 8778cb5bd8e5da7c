package tests

import (
	"math"
	"slices"
	"strings"
	"testing"

	"loop.example/g03211/impl"
)

// lettered returns a network without open labels, all of whose dimensions are
// 2: "ab b -" are three tensors, the first of which has the labels 0 and 1, the
// second the label 1, and the third none.
func lettered(s string) impl.Network {
	n := impl.Network{Ring: modRing(7)}
	for k, word := range strings.Fields(s) {
		var labels []int
		for _, letter := range strings.Trim(word, "-") {
			labels = append(labels, int(letter-'a'))
		}
		a := axes{labels, slices.Repeat([]int{2}, len(labels))}
		n.Tensors = append(n.Tensors, tensorWith(a, elemsFor(n.Ring, countOf(a.dims), k)))
	}
	return n
}

// graphCases names, for each tensor of a network, its neighbors, and besides
// them the parts and whether there is no cycle.
var graphCases = []struct {
	letters   string
	neighbors [][]int
	parts     [][]int
	forest    bool
}{
	{"", nil, nil, true},
	// One tensor, and scalars.
	{"-", [][]int{nil}, [][]int{{0}}, true},
	{"a", [][]int{nil}, [][]int{{0}}, true},
	{"cab", [][]int{nil}, [][]int{{0}}, true},
	{"- -", [][]int{nil, nil}, [][]int{{0}, {1}}, true},
	{"a - a", [][]int{{2}, nil, {0}}, [][]int{{0, 2}, {1}}, true},
	{"- ab - bc -", [][]int{nil, {3}, nil, {1}, nil}, [][]int{{0}, {1, 3}, {2}, {4}}, true},
	// Two tensors.
	{"a a", [][]int{{1}, {0}}, [][]int{{0, 1}}, true},
	{"ab bc", [][]int{{1}, {0}}, [][]int{{0, 1}}, true},
	{"ab a", [][]int{{1}, {0}}, [][]int{{0, 1}}, true},
	{"ab cd", [][]int{nil, nil}, [][]int{{0}, {1}}, true},
	{"ab ab", [][]int{{1}, {0}}, [][]int{{0, 1}}, false},
	{"ab bca", [][]int{{1}, {0}}, [][]int{{0, 1}}, false},
	{"abcd dcba", [][]int{{1}, {0}}, [][]int{{0, 1}}, false},
	// A label in three and more tensors.
	{"a a a", [][]int{{1, 2}, {0, 2}, {0, 1}}, [][]int{{0, 1, 2}}, true},
	{"xa bx cx xd", [][]int{{1, 2, 3}, {0, 2, 3}, {0, 1, 3}, {0, 1, 2}}, [][]int{{0, 1, 2, 3}}, true},
	{"xy xa yb x y", [][]int{{1, 2, 3, 4}, {0, 3}, {0, 4}, {0, 1}, {0, 2}}, [][]int{{0, 1, 2, 3, 4}}, true},
	{"xa xb x bc c", [][]int{{1, 2}, {0, 2, 3}, {0, 1}, {1, 4}, {3}}, [][]int{{0, 1, 2, 3, 4}}, true},
	{"xa xb xab", [][]int{{1, 2}, {0, 2}, {0, 1}}, [][]int{{0, 1, 2}}, false},
	{"xy x yx", [][]int{{1, 2}, {0, 2}, {0, 1}}, [][]int{{0, 1, 2}}, false},
	{"xa x xa b", [][]int{{1, 2}, {0, 2}, {0, 1}, nil}, [][]int{{0, 1, 2}, {3}}, false},
	// Trees and cycles.
	{"ab bc cd de", [][]int{{1}, {0, 2}, {1, 3}, {2}}, [][]int{{0, 1, 2, 3}}, true},
	{"abc c a b", [][]int{{1, 2, 3}, {0}, {0}, {0}}, [][]int{{0, 1, 2, 3}}, true},
	{"ab bc ca", [][]int{{1, 2}, {0, 2}, {0, 1}}, [][]int{{0, 1, 2}}, false},
	{"ab bc cd da", [][]int{{1, 3}, {0, 2}, {1, 3}, {0, 2}}, [][]int{{0, 1, 2, 3}}, false},
	{"ab cd bc da e", [][]int{{2, 3}, {2, 3}, {0, 1}, {0, 1}, nil}, [][]int{{0, 1, 2, 3}, {4}}, false},
	{"pa ab bc ca cq", [][]int{{1, 3}, {0, 2, 3}, {1, 3, 4}, {0, 1, 2, 4}, {2, 3}}, [][]int{{0, 1, 2, 3, 4}}, false},
	// Several parts, with a cycle in one of them or in none.
	{"a b c", [][]int{nil, nil, nil}, [][]int{{0}, {1}, {2}}, true},
	{"a b a b", [][]int{{2}, {3}, {0}, {1}}, [][]int{{0, 2}, {1, 3}}, true},
	{"ab c bd e cf e", [][]int{{2}, {4}, {0}, {5}, {1}, {3}}, [][]int{{0, 2}, {1, 4}, {3, 5}}, true},
	{"ab ab c d e f", [][]int{{1}, {0}, nil, nil, nil, nil}, [][]int{{0, 1}, {2}, {3}, {4}, {5}}, false},
	{"c d cd fe ef", [][]int{{2}, {2}, {0, 1}, {4}, {3}}, [][]int{{0, 1, 2}, {3, 4}}, false},
	{"c xy d cd xy d", [][]int{{3}, {4}, {3, 5}, {0, 2, 5}, {1}, {2, 3}}, [][]int{{0, 2, 3, 5}, {1, 4}}, false},
	// Chains that go up and down among the indices.
	{"ef de cd bc ab", [][]int{{1}, {0, 2}, {1, 3}, {2, 4}, {3}}, [][]int{{0, 1, 2, 3, 4}}, true},
	{"a de bc e cd ab", [][]int{{5}, {3, 4}, {4, 5}, {1}, {1, 2}, {0, 2}}, [][]int{{0, 1, 2, 3, 4, 5}}, true},
	{"a xy de y bc e cd ab x", [][]int{{7}, {3, 8}, {5, 6}, {1}, {6, 7}, {2}, {2, 4}, {0, 4}, {1}}, [][]int{{0, 2, 4, 5, 6, 7}, {1, 3, 8}}, true},
	// MaxTensors tensors.
	{"- - - - - - - - - - - -", make([][]int, 12), [][]int{{0}, {1}, {2}, {3}, {4}, {5}, {6}, {7}, {8}, {9}, {10}, {11}}, true},
	{"a b c d e f g h i j k l", make([][]int, 12), [][]int{{0}, {1}, {2}, {3}, {4}, {5}, {6}, {7}, {8}, {9}, {10}, {11}}, true},
	{"a a b a c a d d e f e d", [][]int{{1, 3, 5}, {0, 3, 5}, nil, {0, 1, 5}, nil, {0, 1, 3}, {7, 11}, {6, 11}, {10}, nil, {8}, {6, 7}}, [][]int{{0, 1, 3, 5}, {2}, {4}, {6, 7, 11}, {8, 10}, {9}}, true},
	{"a ab bc cd de ef fg gh hi ij jk k", [][]int{{1}, {0, 2}, {1, 3}, {2, 4}, {3, 5}, {4, 6}, {5, 7}, {6, 8}, {7, 9}, {8, 10}, {9, 11}, {10}}, [][]int{countUp(12)}, true},
	{"la ab bc cd de ef fg gh hi ij jk kl", [][]int{{1, 11}, {0, 2}, {1, 3}, {2, 4}, {3, 5}, {4, 6}, {5, 7}, {6, 8}, {7, 9}, {8, 10}, {9, 11}, {0, 10}}, [][]int{countUp(12)}, false},
	{"k jk ij hi gh fg ef de cd bc ab a", [][]int{{1}, {0, 2}, {1, 3}, {2, 4}, {3, 5}, {4, 6}, {5, 7}, {6, 8}, {7, 9}, {8, 10}, {9, 11}, {10}}, [][]int{countUp(12)}, true},
}

// countUp returns the integers from 0 to n-1.
func countUp(n int) []int {
	l := make([]int, n)
	for i := range l {
		l[i] = i
	}
	return l
}

// notIndicesOf returns integers that are not the indices of n tensors.
func notIndicesOf(n int) []int {
	return []int{n, n + 1, 2*n + 1, 12, 13, 15, 16, 31, 32, 63, 64, 100, -1, -2, -n - 1, -64, 1 << 32, math.MinInt, math.MaxInt}
}

func sameListOfLists(t *testing.T, what string, got [][]int, want [][]int) {
	t.Helper()
	if !slices.EqualFunc(got, want, slices.Equal[[]int]) {
		t.Errorf("%q: %v, not %v", what, got, want)
	}
}

func sameNetwork(t *testing.T, what string, got impl.Network, want impl.Network) {
	t.Helper()
	if got.Ring != want.Ring || len(got.Tensors) != len(want.Tensors) {
		t.Fatalf("%s: %d tensors over %v, not %d over %v", what, len(got.Tensors), got.Ring, len(want.Tensors), want.Ring)
	}
	for k, tensor := range want.Tensors {
		sameTensor(t, "a tensor of "+what, got.Tensors[k], tensor)
	}
	sameList(t, "the open labels of "+what, got.Open, want.Open)
}

func subNetwork(t *testing.T, n impl.Network, l []int) impl.Network {
	t.Helper()
	got, ok := impl.SubNetwork(n, l)
	if !ok || !impl.NetworkOk(got) {
		t.Errorf("SubNetwork of %v with %v open: %t, or no network", l, n.Open, ok)
	}
	return got
}

func noSubNetwork(t *testing.T, n impl.Network, l []int) {
	t.Helper()
	got, ok := impl.SubNetwork(n, l)
	sameNetwork(t, "SubNetwork with wrong arguments", got, impl.Network{})
	if ok {
		t.Errorf("SubNetwork of %v with %v open gives true", l, n.Open)
	}
}

// noGraph looks for the answers of all the functions to a network that is not
// valid.
func noGraph(t *testing.T, n impl.Network) {
	t.Helper()
	for _, k := range append(notIndicesOf(len(n.Tensors)), countUp(14)...) {
		if got := impl.NeighborsOf(n, k); got != nil {
			t.Errorf("NeighborsOf of %d in no network: %v", k, got)
		}
		noSubNetwork(t, n, []int{k})
	}
	if got := impl.PartsOf(n); got != nil {
		t.Errorf("PartsOf of no network: %v", got)
	}
	if impl.IsForest(n) {
		t.Errorf("IsForest of no network is true: %v", n)
	}
	all := countUp(len(n.Tensors))
	for _, l := range [][]int{nil, {}, {0, 1}, {1, 0}, {0, 0}, all, backward(all)} {
		noSubNetwork(t, n, l)
	}
}

// sameGraph compares the answers of all the functions but SubNetwork with these.
func sameGraph(t *testing.T, n impl.Network, neighbors [][]int, parts [][]int, forest bool) {
	t.Helper()
	for k, want := range neighbors {
		sameList(t, "the neighbors of a tensor", impl.NeighborsOf(n, k), want)
	}
	for _, k := range notIndicesOf(len(n.Tensors)) {
		if got := impl.NeighborsOf(n, k); (k < 0 || k >= len(n.Tensors)) && got != nil {
			t.Errorf("NeighborsOf of %d among %d tensors: %v", k, len(n.Tensors), got)
		}
	}
	sameListOfLists(t, "the parts", impl.PartsOf(n), parts)
	if got := impl.IsForest(n); got != forest {
		t.Errorf("IsForest: %t, not %t", got, forest)
	}
}

func TestGraphs(t *testing.T) {
	for i, c := range graphCases {
		n := lettered(c.letters)
		all := axesIn(n).labels
		// Which labels are open makes no difference.
		for _, open := range [][]int{nil, all[:min(len(all), 12)], rotated(all, i)[:len(all)/2]} {
			n.Open = open
			sameGraph(t, n, c.neighbors, c.parts, c.forest)
			if t.Failed() {
				t.Fatalf("of %q with %v open", c.letters, open)
			}
		}
	}
}

func haveCommonLabel(a impl.Tensor, b impl.Tensor) bool {
	return slices.ContainsFunc(a.Labels, func(label int) bool { return slices.Contains(b.Labels, label) })
}

func wantedNeighbors(n impl.Network, k int) []int {
	var l []int
	for j, tensor := range n.Tensors {
		if j != k && haveCommonLabel(tensor, n.Tensors[k]) {
			l = append(l, j)
		}
	}
	return l
}

// wantedParts gives each tensor the least index in its part: at first its own
// one, and then again and again the least one of its neighbors.
func wantedParts(n impl.Network) [][]int {
	least := countUp(len(n.Tensors))
	for range n.Tensors {
		for k := range n.Tensors {
			for _, j := range wantedNeighbors(n, k) {
				least[k] = min(least[k], least[j])
			}
		}
	}
	var parts [][]int
	for first := range n.Tensors {
		var part []int
		for k, name := range least {
			if name == first {
				part = append(part, k)
			}
		}
		if part != nil {
			parts = append(parts, part)
		}
	}
	return parts
}

// wantedForest takes away all edges that are the only ones of a node, again and
// again: those of cycles are left.
func wantedForest(n impl.Network) bool {
	type edge struct {
		tensor int
		label  int
	}
	var edges []edge
	for k, tensor := range n.Tensors {
		for _, label := range tensor.Labels {
			edges = append(edges, edge{k, label})
		}
	}
	for range len(edges) {
		tensors, labels := map[int]int{}, map[int]int{}
		for _, e := range edges {
			tensors[e.tensor]++
			labels[e.label]++
		}
		edges = slices.DeleteFunc(edges, func(e edge) bool { return tensors[e.tensor] == 1 || labels[e.label] == 1 })
	}
	return len(edges) == 0
}

// wantedSub follows the text of chapter 14. It takes n to be valid.
func wantedSub(n impl.Network, l []int) (impl.Network, bool) {
	sub := impl.Network{Ring: n.Ring}
	rest := slices.Clone(n.Tensors)
	for i, k := range l {
		if k < 0 || k >= len(n.Tensors) || slices.Contains(l[:i], k) {
			return impl.Network{}, false
		}
		sub.Tensors = append(sub.Tensors, n.Tensors[k])
		rest[k] = impl.Tensor{}
	}
	inside, outside := axesIn(sub), axesIn(impl.Network{Tensors: rest})
	for _, label := range n.Open {
		if slices.Contains(inside.labels, label) {
			sub.Open = append(sub.Open, label)
		}
	}
	for _, label := range inside.labels {
		if slices.Contains(outside.labels, label) && !slices.Contains(n.Open, label) {
			sub.Open = append(sub.Open, label)
		}
	}
	if len(sub.Open) > 12 || countOf(dimsIn(inside, sub.Open)) > 4096 {
		return impl.Network{}, false
	}
	return sub, true
}

func sameSub(t *testing.T, n impl.Network, l []int) {
	t.Helper()
	want, ok := wantedSub(n, l)
	if !ok {
		noSubNetwork(t, n, l)
		return
	}
	sameNetwork(t, "a part of a network", subNetwork(t, n, l), want)
}

// sameWantedGraph compares them with those that follow the text of chapter 14.
func sameWantedGraph(t *testing.T, n impl.Network) {
	t.Helper()
	var neighbors [][]int
	for k := range n.Tensors {
		neighbors = append(neighbors, wantedNeighbors(n, k))
	}
	parts, forest := wantedParts(n), wantedForest(n)
	sameGraph(t, n, neighbors, parts, forest)
	nodes, edges := len(n.Tensors)+len(axesIn(n).labels), 0
	for _, tensor := range n.Tensors {
		edges += len(tensor.Labels)
	}
	if got := edges == nodes-len(impl.PartsOf(n)); got != impl.IsForest(n) {
		t.Errorf("IsForest: %t, with %d nodes, %d edges and the parts %v", impl.IsForest(n), nodes, edges, parts)
	}
}

func TestGraphsOfManyNetworks(t *testing.T) {
	t.Parallel()
	for j, r := range fullRings() {
		for i, s := range someLayouts {
			n := networkFor(r, layoutOf(s), i+j, nil)
			opens := someOpens(axesIn(n).labels)
			n.Open = opens[(3*i+j)%len(opens)]
			sameWantedGraph(t, n)
			if t.Failed() {
				t.Fatalf("over %v of %q with %v open", r, s, n.Open)
			}
		}
	}
}

// Every list of up to four tensors with some of the labels 0, 1, 2.
func TestGraphsOfAllSmallNetworks(t *testing.T) {
	t.Parallel()
	words := []string{"-", "a", "b", "c", "ab", "cb", "ca", "bac"}
	forests := 0
	for i, chosen := range listsOf(4, countUp(len(words))...) {
		var letters []string
		for _, k := range chosen {
			letters = append(letters, words[k])
		}
		n := lettered(strings.Join(letters, " "))
		opens := someOpens(axesIn(n).labels)
		n.Open = opens[i%len(opens)]
		sameWantedGraph(t, n)
		if impl.IsForest(n) {
			forests++
		}
		for _, l := range listsOf(3, countUp(len(n.Tensors)+1)...) {
			sameSub(t, n, l)
		}
		if t.Failed() {
			t.Fatalf("of %q with %v open", letters, n.Open)
		}
	}
	if forests < 100 {
		t.Errorf("only %d forests", forests)
	}
}

// Every order of the tensors of a chain, with others beside it.
func TestChainsInEveryOrder(t *testing.T) {
	t.Parallel()
	for _, s := range []string{"ab bc cd de ef", "a ab bc cd x dy y", "ab bc ca x xy"} {
		words := strings.Fields(s)
		for _, order := range allOrders(countUp(len(words))) {
			var letters []string
			for _, k := range order {
				letters = append(letters, words[k])
			}
			n := lettered(strings.Join(letters, " "))
			sameWantedGraph(t, n)
			if t.Failed() {
				t.Fatalf("of %q", letters)
			}
		}
	}
}

func TestSubNetwork(t *testing.T) {
	for _, c := range []struct {
		letters string
		open    []int
		l       []int
		want    []int
	}{
		{"", nil, nil, nil},
		{"-", nil, nil, nil},
		{"-", nil, []int{0}, nil},
		{"- -", nil, []int{1, 0}, nil},
		// No tensor has no label.
		{"ab bc", []int{1, 0}, nil, nil},
		// All tensors have no label in common with another one.
		{"ab bc", nil, []int{0, 1}, nil},
		{"ab bc", nil, []int{1, 0}, nil},
		{"ab bc", []int{2, 0}, []int{1, 0}, []int{2, 0}},
		{"ab bc", []int{1, 2, 0}, []int{0, 1}, []int{1, 2, 0}},
		// The label 1 is in both; 0 and 2 are not.
		{"ab bc", nil, []int{0}, []int{1}},
		{"ab bc", nil, []int{1}, []int{1}},
		{"ab bc", []int{0}, []int{0}, []int{0, 1}},
		{"ab bc", []int{0}, []int{1}, []int{1}},
		{"ab bc", []int{2, 0}, []int{0}, []int{0, 1}},
		{"ab bc", []int{2, 0}, []int{1}, []int{2, 1}},
		{"ab bc", []int{1}, []int{0}, []int{1}},
		{"ab bc", []int{1, 0}, []int{0}, []int{1, 0}},
		{"ab bc", []int{2, 1, 0}, []int{1}, []int{2, 1}},
		// Labels in several tensors that are not chosen, and in several that are.
		{"a a a", nil, []int{1}, []int{0}},
		{"a a a", nil, []int{2, 0}, []int{0}},
		{"a a a", nil, []int{2, 0, 1}, nil},
		{"ab ab ab c", nil, []int{0, 1}, []int{0, 1}},
		{"ab ab c ab", []int{1}, []int{3, 0}, []int{1, 0}},
		{"ab ab c ab", []int{2, 1}, []int{3, 2}, []int{2, 1, 0}},
		{"ab bc cd de", nil, []int{1, 2}, []int{1, 3}},
		{"ab bc cd de", nil, []int{3, 0}, []int{1, 3}},
		{"ab bc cd de", []int{2}, []int{1, 2}, []int{2, 1, 3}},
		{"ab bc cd de", []int{4, 2, 0}, []int{2, 1}, []int{2, 1, 3}},
		{"ab bc cd de", []int{4, 2, 0}, []int{3, 0}, []int{4, 0, 1, 3}},
		// Ascending, wherever they stand in the tensors.
		{"dbca acbd", nil, []int{0}, []int{0, 1, 2, 3}},
		{"d c b a abcd", nil, []int{0, 1, 2, 3}, []int{0, 1, 2, 3}},
		{"d c b a abcd", []int{2}, []int{0, 1, 2, 3}, []int{2, 0, 1, 3}},
		{"dbca bd a", []int{3, 1}, []int{0}, []int{3, 1, 0}},
		{"dbca bd a", []int{1, 3}, []int{0}, []int{1, 3, 0}},
		{"- ab - bc -", []int{2}, []int{4, 3, 0}, []int{2, 1}},
	} {
		n := lettered(c.letters)
		n.Open = c.open
		want := impl.Network{Ring: n.Ring, Open: c.want}
		for _, k := range c.l {
			want.Tensors = append(want.Tensors, n.Tensors[k])
		}
		sameNetwork(t, "a part of "+c.letters, subNetwork(t, n, c.l), want)
		if t.Failed() {
			t.Fatalf("the tensors %v of %q with %v open", c.l, c.letters, c.open)
		}
	}
}

// someChoices returns lists of distinct indices of n tensors, all of them if
// there are few.
func someChoices(n int, seed int) [][]int {
	all := countUp(n)
	if n > 4 {
		turned := rotated(all, seed)
		return [][]int{nil, all, backward(all), turned[:1], turned[:2], turned[n-2:], turned[:n/2], backward(turned[n/2:]), turned[1:], all[:n-1]}
	}
	var choices [][]int
	for _, part := range subsets(all) {
		choices = append(choices, allOrders(part)...)
	}
	return choices
}

// complement returns the indices of n tensors that are not in the list.
func complement(l []int, n int) []int {
	return slices.DeleteFunc(countUp(n), func(k int) bool { return slices.Contains(l, k) })
}

func TestSubNetworksOfManyNetworks(t *testing.T) {
	t.Parallel()
	for j, r := range fullRings() {
		for i, s := range someLayouts {
			n := networkFor(r, layoutOf(s), i+j, nil)
			opens := someOpens(axesIn(n).labels)
			n.Open = opens[(i+2*j)%len(opens)]
			for _, l := range someChoices(len(n.Tensors), i+j) {
				sameSub(t, n, l)
			}
			sameNetwork(t, "all of a network", subNetwork(t, n, countUp(len(n.Tensors))), n)
			sameNetwork(t, "nothing of a network", subNetwork(t, n, nil), impl.Network{Ring: r})
			if t.Failed() {
				t.Fatalf("over %v of %q with %v open", r, s, n.Open)
			}
		}
	}
}

// The values of subnetworks that have all the tensors together, each of them in
// one of them, are tensors of a network with the same value.
func TestValuesOfSubNetworks(t *testing.T) {
	t.Parallel()
	for j, r := range fullRings() {
		for i, s := range someLayouts {
			n := networkFor(r, layoutOf(s), 2*i+j, nil)
			opens := someOpens(axesIn(n).labels)
			n.Open = opens[(i+5*j)%len(opens)]
			want := wantedValue(n)
			count := len(n.Tensors)
			divisions := [][][]int{impl.PartsOf(n), {}}
			for k := range count {
				divisions[1] = append(divisions[1], []int{k})
			}
			for k, l := range someChoices(count, i+j) {
				if (i+j+k)%5 == 0 {
					divisions = append(divisions, [][]int{l, complement(l, count)})
				}
			}
			for _, division := range divisions {
				whole := impl.Network{Ring: r, Open: n.Open}
				for _, l := range division {
					whole.Tensors = append(whole.Tensors, value(t, subNetwork(t, n, l)))
				}
				sameTensor(t, "the value of a divided network", value(t, whole), want)
				if t.Failed() {
					t.Fatalf("over %v of %q with %v open, divided into %v", r, s, n.Open, division)
				}
			}
		}
	}
}

func TestListsThatChooseNoTensors(t *testing.T) {
	for i, s := range someLayouts {
		r := fullRings()[i%len(fullRings())]
		n := networkFor(r, layoutOf(s), i, nil)
		count := len(n.Tensors)
		all := countUp(count)
		for _, k := range notIndicesOf(count) {
			if k >= 0 && k < count {
				continue
			}
			noSubNetwork(t, n, []int{k})
			noSubNetwork(t, n, append(slices.Clone(all), k))
			noSubNetwork(t, n, append([]int{k}, all...))
		}
		for _, k := range all {
			noSubNetwork(t, n, []int{k, k})
			noSubNetwork(t, n, append(slices.Clone(all), k))
			noSubNetwork(t, n, append([]int{k}, all...))
			noSubNetwork(t, n, slices.Repeat([]int{k}, 10000))
		}
		noSubNetwork(t, n, append(slices.Clone(all), -1))
		noSubNetwork(t, n, countUp(count+1))
		noSubNetwork(t, n, countUp(10000))
	}
}

// The labels that a tensor has in common with others may be too many for Open.
func TestLimitsOfSubNetworks(t *testing.T) {
	r := capRing(1000000)
	for _, c := range []struct {
		first  []int
		second []int
		ok     bool
	}{
		{slices.Repeat([]int{1}, 6), slices.Repeat([]int{1}, 6), true},
		{slices.Repeat([]int{1}, 12), nil, true},
		{slices.Repeat([]int{1}, 7), slices.Repeat([]int{1}, 6), false},
		{slices.Repeat([]int{1}, 12), []int{1}, false},
		{slices.Repeat([]int{1}, 12), slices.Repeat([]int{1}, 12), false},
		{slices.Repeat([]int{2}, 6), slices.Repeat([]int{2}, 6), true},
		{[]int{8, 8, 8}, []int{8}, true},
		{[]int{5, 5, 5}, []int{8, 4}, true},
		{[]int{5, 5, 5}, []int{5, 7}, false},
		{[]int{8, 8, 8}, []int{3, 3}, false},
		{[]int{8, 8, 8, 8}, []int{2}, false},
		{[]int{8, 8, 8, 8}, []int{8, 8, 8, 8}, false},
	} {
		labels := labelsFrom(21, len(c.first)+len(c.second))
		middle := len(c.first)
		first, second := ones(axes{labels[:middle], c.first}), ones(axes{labels[middle:], c.second})
		n := impl.Network{Ring: r, Tensors: []impl.Tensor{first, second, second, point(1), first}}
		// All labels are in two tensors, so that they become open anyway, also
		// where Open has one of them.
		for _, open := range [][]int{nil, labels[:1], labels[middle-1 : middle]} {
			n.Open = open
			for _, l := range [][]int{{0, 1}, {1, 0}, {2, 4}, {0, 3, 2}} {
				sameSub(t, n, l)
				if _, ok := impl.SubNetwork(n, l); ok != c.ok {
					t.Errorf("SubNetwork with the labels %v and %v in common: %t", c.first, c.second, ok)
				}
			}
			// One of them alone, and all of them, which have no others beside them.
			for _, l := range [][]int{{0}, {1}, {4}, {3}, {0, 4}, {1, 2}, {0, 1, 2, 3, 4}, {4, 3, 2, 1, 0}} {
				sameSub(t, n, l)
				subNetwork(t, n, l)
			}
		}
	}
	// Twelve labels of Open and one more.
	labels := labelsFrom(5, 13)
	n := impl.Network{Ring: r, Tensors: []impl.Tensor{
		ones(axes{labels[:7], slices.Repeat([]int{1}, 7)}),
		ones(axes{labels[7:], slices.Repeat([]int{2}, 6)}),
		line(labels[12], 2, 1, 1),
	}, Open: backward(labels[:12])}
	noSubNetwork(t, n, []int{0, 1})
	sameList(t, "the open labels", subNetwork(t, n, []int{0, 1, 2}).Open, n.Open)
	sameList(t, "the open labels", subNetwork(t, n, []int{2, 1}).Open, backward(labels[7:12]))
	sameList(t, "the open labels", subNetwork(t, n, []int{1}).Open, append(backward(labels[7:12]), labels[12]))
}

// As many labels as there are, of which each tensor has the last one of the
// tensor before it too.
func TestGraphOfAllLabels(t *testing.T) {
	for _, closed := range []bool{false, true} {
		n := impl.Network{Ring: modRing(7)}
		labels := labelsFrom(17, 100)
		for start := 0; start < 100; start += 9 {
			part := labels[max(start-1, 0):min(start+9, 100)]
			if closed && start == 99 {
				part = append(slices.Clone(part), labels[0])
			}
			n.Tensors = append(n.Tensors, tensorWith(axes{part, slices.Repeat([]int{1}, len(part))}, elemsFor(n.Ring, 1, start)))
		}
		sameWantedGraph(t, n)
		if impl.IsForest(n) == closed || len(n.Tensors) != 12 {
			t.Errorf("IsForest of a ring: %t", !closed)
		}
		for _, l := range someChoices(12, 5) {
			sameSub(t, n, l)
		}
	}
}

func TestGraphsOfWrongNetworks(t *testing.T) {
	for _, n := range wrongNetworks() {
		noGraph(t, n)
	}
	for _, r := range notRings {
		noGraph(t, impl.Network{Ring: r})
		for _, data := range [][]int{nil, {0}, {0, 0}, {1, 0, 0, 0}} {
			noGraph(t, impl.Network{Ring: r, Tensors: []impl.Tensor{{Data: data}, {Labels: []int{3}, Dims: []int{1}, Data: data}}})
		}
	}
}

func TestNetworksStayInGraphs(t *testing.T) {
	t.Parallel()
	for j, r := range fullRings() {
		for i, s := range someLayouts {
			before := networkFor(r, layoutOf(s), i+j, nil)
			opens := someOpens(axesIn(before).labels)
			before.Open = opens[(2*i+j)%len(opens)]
			n := spareNetwork(before)
			choices := someChoices(len(before.Tensors), i)
			plain := choices[(i+j)%len(choices)]
			l := withSpare(plain, -9)
			want, _ := wantedSub(before, plain)
			for range 2 {
				// What the results share with an argument changes here.
				for k := range n.Tensors {
					got := impl.NeighborsOf(n, k)
					sameList(t, "the neighbors of a tensor", got, wantedNeighbors(before, k))
					spoil(got, -5)
				}
				parts := impl.PartsOf(n)
				sameListOfLists(t, "the parts", parts, wantedParts(before))
				for _, part := range parts {
					spoil(part, -5)
				}
				spoil(parts, []int{-5})
				impl.IsForest(n)
				got := subNetwork(t, n, l)
				sameNetwork(t, "a part of a network", got, want)
				for _, tensor := range got.Tensors {
					spoilTensor(tensor)
				}
				spoil(got.Tensors, point(-5))
				spoil(got.Open, -5)
			}
			networkStays(t, n, before)
			sameList(t, "the indices", l[:len(l)+3], append(slices.Clone(plain), -9, -9, -9))
			if t.Failed() {
				t.Fatalf("over %v of %q with %v open", r, s, before.Open)
			}
		}
	}
}

func TestWrongArgumentsStayInGraphs(t *testing.T) {
	for _, before := range append(wrongNetworks(), lettered("ab bc - ca")) {
		n := spareNetwork(before)
		for _, plain := range [][]int{{0, 0}, {1, -1}, {99}, {3, 2, 1, 0, 3}} {
			l := withSpare(plain, -9)
			noSubNetwork(t, n, l)
			sameList(t, "the indices", l[:len(l)+3], append(slices.Clone(plain), -9, -9, -9))
		}
		impl.NeighborsOf(n, -1)
		impl.NeighborsOf(n, 0)
		impl.PartsOf(n)
		impl.IsForest(n)
		networkStays(t, n, before)
	}
}

// Lists of one answer have no memory in common, nor have they with an argument,
// whose lists may be a single one.
func TestPartsOfGraphsAreApart(t *testing.T) {
	l := []int{1}
	tensor := impl.Tensor{Labels: l, Dims: l, Data: l}
	n := impl.Network{Ring: capRing(1), Tensors: []impl.Tensor{tensor, tensor, tensor}, Open: l}
	for _, chosen := range [][]int{l, {0, 1, 2}, {2, 1}} {
		sub := subNetwork(t, n, chosen)
		partsApart(t, l, sub.Tensors...)
		sameList(t, "the open labels", sub.Open, []int{1})
		spoil(sub.Open, 7)
		sameList(t, "the list", l, []int{1})
	}
	sub, again := subNetwork(t, n, []int{0, 1}), subNetwork(t, n, []int{0, 1})
	spoil(sub.Open, 7)
	spoil(sub.Tensors, point(7))
	partsApart(t, l, again.Tensors...)
	sameList(t, "the open labels", again.Open, []int{1})
	for _, s := range []string{"a b c d", "a b a b c c", "- - -", "a a b c b c c"} {
		n := lettered(s)
		want := wantedParts(n)
		for k := range want {
			parts := impl.PartsOf(n)
			if len(parts) != len(want) {
				t.Fatalf("%d parts of %q, not %d", len(parts), s, len(want))
			}
			spoil(parts[k], -5)
			sameListOfLists(t, "the parts before it", parts[:k], want[:k])
			sameListOfLists(t, "the parts behind it", parts[k+1:], want[k+1:])
		}
	}
	sameList(t, "the neighbors", impl.NeighborsOf(n, 1), []int{0, 2})
	spoil(impl.NeighborsOf(n, 1), 7)
	sameList(t, "the neighbors again", impl.NeighborsOf(n, 1), []int{0, 2})
	sameList(t, "the list", l, []int{1})
}
