package tests

import (
	"math"
	"regexp"
	"slices"
	"strconv"
	"strings"
	"testing"

	"loop.example/g03211/impl"
)

// plainTensor writes any three lists in the form of a tensor. A label or
// dimension that is missing is left out, and the last element may be short.
func plainTensor(tensor impl.Tensor, width int) string {
	var parts []string
	for i := range max(len(tensor.Labels), len(tensor.Dims)) {
		part := ":"
		if i < len(tensor.Labels) {
			part = strconv.Itoa(tensor.Labels[i]) + part
		}
		if i < len(tensor.Dims) {
			part += strconv.Itoa(tensor.Dims[i])
		}
		parts = append(parts, part)
	}
	parts = append(parts, "=")
	for elem := range slices.Chunk(tensor.Data, width) {
		parts = append(parts, plainText(elem))
	}
	return strings.Join(parts, " ")
}

var axisPattern = regexp.MustCompile(`\A([0-9]|[1-9][0-9]):([1-8])\z`)

// readTensor reads a text as chapter 12 writes it, part by part.
func readTensor(s string, width int, top int) (impl.Tensor, bool) {
	parts := strings.Split(s, " ")
	count := slices.Index(parts, "=")
	var a axes
	for _, part := range parts[:max(count, 0)] {
		numbers := axisPattern.FindStringSubmatch(part)
		if numbers == nil {
			return impl.Tensor{}, false
		}
		label, _ := strconv.Atoi(numbers[1])
		dim, _ := strconv.Atoi(numbers[2])
		a = axes{append(a.labels, label), append(a.dims, dim)}
	}
	if count < 0 || wantedSize(a) != len(parts)-count-1 {
		return impl.Tensor{}, false
	}
	var elems [][]int
	for _, part := range parts[count+1:] {
		x := wantedElem(part, width, top)
		if x == nil {
			return impl.Tensor{}, false
		}
		elems = append(elems, x)
	}
	return tensorWith(a, elems), true
}

func noTensorText(t *testing.T, r impl.Ring, s string) {
	t.Helper()
	got, ok := impl.ParseTensor(r, s)
	if ok || got.Labels != nil || got.Dims != nil || got.Data != nil {
		t.Errorf("ParseTensor(%v, %.200q): %v with %d integers, %t, not the zero value and false", r, s, axesOf(got), len(got.Data), ok)
	}
}

func noTextOf(t *testing.T, r impl.Ring, tensor impl.Tensor) {
	t.Helper()
	if got := impl.FormatTensor(r, tensor); got != "" {
		t.Errorf("over %v FormatTensor of %v with %d integers: %.200q, not empty", r, axesOf(tensor), len(tensor.Data), got)
	}
}

// comesBack compares both the text of a tensor and the tensor of the text.
func comesBack(t *testing.T, r impl.Ring, tensor impl.Tensor, text string) {
	t.Helper()
	if got := impl.FormatTensor(r, tensor); got != text {
		t.Errorf("over %v FormatTensor of %v: %.200q, not %.200q", r, axesOf(tensor), got, text)
	}
	got, ok := impl.ParseTensor(r, text)
	if !ok || !impl.TensorOk(r, got) {
		t.Errorf("ParseTensor(%v, %.200q): %t, or no tensor", r, text, ok)
	}
	sameTensor(t, "the tensor of a text", got, tensor)
}

// sameText compares whether a text is that of a tensor, and of which one. It
// returns whether there is one.
func sameText(t *testing.T, r impl.Ring, s string, width int, top int) bool {
	t.Helper()
	want, ok := readTensor(s, width, top)
	if !ok {
		noTensorText(t, r, s)
		return false
	}
	comesBack(t, r, want, s)
	return true
}

var tensorTexts = []struct {
	r      impl.Ring
	tensor impl.Tensor
	text   string
}{
	// Without axes, in each kind of ring.
	{boolRing(), impl.Tensor{Data: []int{0}}, "= 0"},
	{boolRing(), impl.Tensor{Data: []int{1}}, "= 1"},
	{modRing(7), impl.Tensor{Data: []int{3}}, "= 3"},
	{modRing(1000003), impl.Tensor{Data: []int{1000002}}, "= 1000002"},
	{capRing(1000000), impl.Tensor{Data: []int{1000000}}, "= 1000000"},
	{minRing(9), impl.Tensor{Data: []int{9}}, "= 9"},
	{minRing(9), impl.Tensor{Data: []int{0}}, "= 0"},
	{wideRing(10), impl.Tensor{Data: []int{10}}, "= 10"},
	{setRing(20), impl.Tensor{Data: []int{1048575}}, "= 1048575"},
	{polyRing(7, 1), impl.Tensor{Data: []int{6}}, "= 6"},
	{polyRing(7, 2), impl.Tensor{Data: []int{0, 0}}, "= 0,0"},
	{polyRing(7, 6), impl.Tensor{Data: []int{1, 2, 3, 4, 5, 6}}, "= 1,2,3,4,5,6"},
	{omegaRing(17), impl.Tensor{Data: []int{1, 0, 16, 10}}, "= 1,0,16,10"},
	// One axis: the least and the greatest label and dimension.
	{boolRing(), impl.Tensor{Labels: []int{0}, Dims: []int{1}, Data: []int{0}}, "0:1 = 0"},
	{modRing(7), impl.Tensor{Labels: []int{99}, Dims: []int{1}, Data: []int{6}}, "99:1 = 6"},
	{modRing(101), impl.Tensor{Labels: []int{99}, Dims: []int{8}, Data: []int{0, 1, 100, 3, 10, 5, 6, 7}}, "99:8 = 0 1 100 3 10 5 6 7"},
	{capRing(10), impl.Tensor{Labels: []int{10}, Dims: []int{3}, Data: []int{10, 0, 1}}, "10:3 = 10 0 1"},
	{minRing(10), impl.Tensor{Labels: []int{9}, Dims: []int{2}, Data: []int{10, 0}}, "9:2 = 10 0"},
	{polyRing(5, 3), impl.Tensor{Labels: []int{1}, Dims: []int{2}, Data: []int{1, 0, 2, 0, 0, 4}}, "1:2 = 1,0,2 0,0,4"},
	{omegaRing(3), impl.Tensor{Labels: []int{4}, Dims: []int{1}, Data: []int{2, 1, 0, 2}}, "4:1 = 2,1,0,2"},
	// More axes; they stay in their order.
	{modRing(7), impl.Tensor{Labels: []int{2, 5}, Dims: []int{2, 3}, Data: []int{0, 1, 2, 3, 4, 5}}, "2:2 5:3 = 0 1 2 3 4 5"},
	{modRing(7), impl.Tensor{Labels: []int{5, 2}, Dims: []int{3, 2}, Data: []int{0, 3, 1, 4, 2, 5}}, "5:3 2:2 = 0 3 1 4 2 5"},
	{setRing(4), impl.Tensor{Labels: []int{98, 0, 10}, Dims: []int{1, 2, 1}, Data: []int{15, 8}}, "98:1 0:2 10:1 = 15 8"},
	{wideRing(3), impl.Tensor{Labels: []int{1, 0}, Dims: []int{1, 1}, Data: []int{3}}, "1:1 0:1 = 3"},
	{polyRing(11, 2), impl.Tensor{Labels: []int{3, 1}, Dims: []int{2, 2}, Data: []int{1, 2, 3, 4, 5, 6, 10, 0}}, "3:2 1:2 = 1,2 3,4 5,6 10,0"},
	{boolRing(), impl.Tensor{Labels: []int{0, 1, 2}, Dims: []int{2, 2, 2}, Data: []int{0, 1, 0, 0, 1, 1, 0, 1}}, "0:2 1:2 2:2 = 0 1 0 0 1 1 0 1"},
	// MaxRank axes.
	{
		modRing(2),
		impl.Tensor{Labels: []int{0, 1, 2, 3, 4, 5, 6, 7, 8, 9, 10, 99}, Dims: []int{1, 1, 1, 1, 1, 2, 1, 1, 1, 1, 1, 2}, Data: []int{1, 0, 0, 1}},
		"0:1 1:1 2:1 3:1 4:1 5:2 6:1 7:1 8:1 9:1 10:1 99:2 = 1 0 0 1",
	},
}

func TestTextsOfTensors(t *testing.T) {
	for _, c := range tensorTexts {
		comesBack(t, c.r, c.tensor, c.text)
		if !sameText(t, c.r, c.text, impl.RingWidth(c.r), topOf(c.r)) {
			t.Errorf("the tests know no tensor of %q over %v", c.text, c.r)
		}
	}
	// An empty list that is not nil is no other one.
	comesBack(t, boolRing(), impl.Tensor{Labels: []int{}, Dims: []int{}, Data: []int{1}}, "= 1")
}

// notTensorTexts are texts of no tensor over any of the full rings.
var notTensorTexts = []string{
	// Nothing, or not everything.
	"", " ", "=", "= ", " =", "  ", " = ", "==", "= =", "2", "2:2", "2:2 5:3", "0", "1 2", "2:2 =", "2:2 = ", "2:2 5:3 =", "2:2 1 2", "1", "2:2 1 2 =",
	// The sign twice, not set apart, or another one.
	"== 1", "= = 1", "= 1 =", "= =1", "=1", "1=", "2:1=1", "2:1= 1", "2:1 =1", "2:1 == 1", "2:1 = = 1", "= 2:1 = 1", "2:1 = 1 = 1", "2:2 = 1 = 1", "2:2 = 1=1",
	"2:1 = 1=", "=2:1 = 1", "2:1 - 1", "2:1 : 1", "2:1 \uff1d 1", "2:1 =\x00 1", "2:1 \xff= 1", "2:1 :=: 1", "2:1 1", "2:1  1", "2=1 = 1", "2:1 = 1 2:1 = 1",
	// Spaces.
	" = 1", "= 1 ", "=  1", "  = 1", "= 1  ", " 2:1 = 1", "2:1  = 1", "2:1 =  1", "2:1 = 1 ", "2:2 = 1  1", "2:1  3:1 = 1", "2:2 = 1 1 ", "2 :1 = 1", "2: 1 = 1",
	"=\t1", "\t= 1", "= 1\n", "\n= 1", "2:1\t= 1", "2:1\n= 1", "2:2 = 1\n1", "2:2 = 1\t1", "2:1\u00a0= 1", "2:1 =\u20031", "2:1 = 1\r\n", "2:1 = 1\x00", "\ufeff2:1 = 1",
	// Too few or too many elements.
	"= 1 1", "= 1 0 1", "2:1 =", "2:1 = 1 1", "2:2 = 1", "2:2 = 1 1 1", "2:2 5:3 = 1 1 1 1 1", "2:2 5:3 = 1 1 1 1 1 1 1", "2:8 = 1 1 1 1 1 1 1", "2:8 = 1 1 1 1 1 1 1 1 1",
	// Parts that are no axes.
	"2 = 1", "1 = 1", "2:2:1 = 1 1", "2:1:1 = 1", "2:1:2 = 1", "2::1 = 1", ":2:1 = 1", "2:1: = 1", ":: = 1", ":1 = 1", "2: = 1", ": = 1", ":1:1 = 1", "2:1 3 = 1", "2 3:1 = 1",
	"2 1 = 1", "2 1 3 1 = 1", "2:1 3: = 1", "2:1 :1 = 1", "2:1 : = 1", "2:1:3:1 = 1", "2:1:3 1 = 1", "2 1:3:1 = 1", "2 2 = 1 1", "2:2,5:3 = 1", "2,1 = 1", "2;1 = 1", "2.1 = 1",
	"2-1 = 1", "2/1 = 1", "21 = 1", "2\x001 = 1", "2\uff1a1 = 1", "a:1 = 1", "2:a = 1", "a = 1", "x2:1 = 1", "2:x1 = 1", "(2:1) = 1", "2:1, = 1", "\xff:1 = 1", "2:\xff = 1",
	// Other forms of their numbers.
	"02:1 = 1", "00:1 = 1", "2:01 = 1", "2:001 = 1", "+2:1 = 1", "2:+1 = 1", "-0:1 = 1", "-2:1 = 1", "2:-1 = 1", "0x2:1 = 1", "2:0x1 = 1", "2.0:1 = 1", "2:1.0 = 1", "2e0:1 = 1",
	"\uff12:1 = 1", "2:\u0661 = 1", "1_0:1 = 1", "2:1_ = 1",
	// No labels, or a label twice.
	"100:1 = 1", "101:1 = 1", "999:1 = 1", "-1:1 = 1", "-99:1 = 1", "4294967298:1 = 1", "9223372036854775807:1 = 1", "-9223372036854775808:1 = 1", "9223372036854775808:1 = 1",
	"18446744073709551618:1 = 1", "2:1 100:1 = 1", "100:2 2:2 = 1 1 1 1", "2:1 2:1 = 1", "2:2 2:2 = 1 1 1 1", "2:1 3:1 2:1 = 1", "0:1 0:2 = 1 1", "2:2 2:2 = 1 1", "99:1 0:1 99:1 = 1",
	// No dimensions.
	"2:0 = 1", "2:0 =", "2:0 = ", "2:9 = 1 1 1 1 1 1 1 1 1", "2:10 = 1", "2:9 = 1", "2:4294967297 = 1", "2:9223372036854775807 = 1", "2:-9223372036854775808 = 1", "2:18446744073709551617 = 1",
	"2:1 3:0 = 1", "2:0 3:1 =", "2:-1 3:-1 = 1", "2:2 3:0 =", "2:16 = 1 1 1 1 1 1 1 1 1 1 1 1 1 1 1 1",
	// More than MaxRank axes.
	"0:1 1:1 2:1 3:1 4:1 5:1 6:1 7:1 8:1 9:1 10:1 11:1 12:1 = 1",
	// Elements of no ring.
	"= a", "= -1", "= +1", "= 01", "= 00", "= -0", "= 1.0", "= 0x1", "= 1,", "= ,1", "= ,", "= 1,,1", "= 1, 1", "= 1;1", "= [1]", "= {1}", "= 1:1", "= :", "= 2:1", "= \xff", "= \uff11",
	"= 9223372036854775807", "= 9223372036854775808", "= -9223372036854775808", "= 18446744073709551617", "= 4294967297", "= 1e0", "= 1_0", "= true", "= =1",
	"2:2 = 1 a", "2:2 = a 1", "2:2 = 1 -1", "2:2 = 01 1", "2:2 = 1 +1", "2:2 = 1 :", "2:2 = 1 ,", "2:2 = , 1", "2:2 = 1:1 1",
	// An element of which a part is missing or where there is one more than the ring has.
	"= 0,0,0,0,0,0,0", "2:2 = 0,0,0,0,0,0,0 0", "2:2 = 0 0,0", "2:2 = 0,0 0", "2:2 = 0,0 0,0,0", "2:2 = 0,0,0 0,0", "2:3 = 0,0,0 0,0 0", "2:2 = 0,0,0 0", "2:2 = 0 0,0,0", "2:2 = 0,0,0,0 0,0",
	"2:3 = 0,0,0,0,0 0,0,0 0", "2:2 = 0,0,0,0,0,0 0,0", "2:2 = 0,0,0,0,0 0,0,0", "2:2 = 0,0,0,0,0,0,0 0,0,0,0,0", "2:4 = 0,0,0 0 0,0 0,0",
	// Other things.
	"2:1 = 1\n2:1 = 1", "2:1 3:1", "tensor 2:1 = 1", "= 1 #", "bool = 1", "bool 2:1 = 1", "2:1 = 1;", "1 = 2:1", "1 = 1", "= 1 2:1", "5:2 2:1 = 1 = 1 1",
}

func TestTextsOfNoTensor(t *testing.T) {
	t.Parallel()
	for _, r := range fullRings() {
		for _, s := range notTensorTexts {
			noTensorText(t, r, s)
			if _, ok := readTensor(s, impl.RingWidth(r), topOf(r)); ok {
				t.Errorf("the tests know a tensor of %q over %v", s, r)
			}
		}
		for _, part := range []string{"0 ", "1 ", "= ", "=", " ", "0:1 ", "0:", ":", "0,", ",", "9", "2:1 = 0 ", "\xff", "\n"} {
			s := strings.Repeat(part, 6000)
			noTensorText(t, r, s)
			noTensorText(t, r, s+"= 0")
			noTensorText(t, r, "0:1 = "+s)
			noTensorText(t, r, s+":1 = 0")
			noTensorText(t, r, "0:"+s+" = 0")
		}
	}
}

func TestTextsOfManyTensors(t *testing.T) {
	t.Parallel()
	for j, rc := range ringCases {
		for i, c := range axesCases {
			if c.size > 300 && (i+j)%4 != 0 {
				// Each of these axes comes over some of the rings.
				continue
			}
			elems := elemsFor(rc.r, c.size, i)
			elems[0], elems[c.size-1] = rc.zero, rc.one
			tensor := tensorWith(c.axes, elems)
			text := plainTensor(tensor, rc.width)
			comesBack(t, rc.r, tensor, text)
			for _, x := range [][]int{rc.zero, rc.one, slices.Repeat([]int{rc.top}, rc.width)} {
				equal := tensorWith(c.axes, slices.Repeat([][]int{x}, c.size))
				comesBack(t, rc.r, equal, plainTensor(equal, rc.width))
			}
			noTensorText(t, rc.r, text+" ")
			noTensorText(t, rc.r, " "+text)
			noTensorText(t, rc.r, text+" "+plainText(rc.zero))
			noTensorText(t, rc.r, text+","+plainText(rc.zero))
			noTensorText(t, rc.r, text[:strings.LastIndex(text, " ")])
			if t.Failed() {
				t.Fatalf("over %v of %v", rc.r, c.axes)
			}
		}
	}
}

// The parts of the text are what the functions of the layers before give.
func TestPartsOfTextsOfTensors(t *testing.T) {
	for _, r := range fullRings() {
		for i, c := range axesCases {
			tensor := tensorWith(c.axes, elemsFor(r, c.size, i))
			words := impl.Words(impl.FormatTensor(r, tensor))
			if len(words) != len(c.labels)+1+c.size || words[len(c.labels)] != "=" {
				t.Fatalf("over %v FormatTensor of %v has %d words", r, c.axes, len(words))
			}
			for k, label := range c.labels {
				if want := impl.FormatInt(label) + ":" + impl.FormatInt(c.dims[k]); words[k] != want {
					t.Errorf("over %v the axis %d of %v is %q, not %q", r, k, c.axes, words[k], want)
				}
			}
			step := max(1, c.size/50)
			for n := 0; n < c.size; n += step {
				index, _ := impl.IndexAt(tensor, n)
				if got, want := words[len(c.labels)+1+n], impl.FormatElem(r, impl.ElemAt(r, tensor, index)); got != want {
					t.Errorf("over %v the element at %v is %q, not %q", r, index, got, want)
				}
			}
		}
	}
}

func TestTensorsWithoutTexts(t *testing.T) {
	t.Parallel()
	for j, r := range fullRings() {
		width := impl.RingWidth(r)
		for _, a := range notAxes {
			for _, data := range [][]int{nil, {0}, make([]int, width), slices.Repeat(dataOf(a.dims), width)} {
				tensor := a.tensor()
				tensor.Data = data
				noTextOf(t, r, tensor)
				noTensorText(t, r, plainTensor(tensor, width))
			}
		}
		for i, c := range axesCases {
			if c.size > 300 && (i+j)%7 != 0 {
				continue
			}
			for _, wrong := range withWrongData(r, tensorWith(c.axes, elemsFor(r, c.size, i))) {
				noTextOf(t, r, wrong)
				noTensorText(t, r, plainTensor(wrong, width))
			}
		}
	}
}

func TestTextsOfTensorsOfInvalidRings(t *testing.T) {
	for _, r := range notRings {
		for _, width := range []int{1, 2, 4, 6} {
			for _, c := range axesCases[:12] {
				tensor := tensorWith(c.axes, slices.Repeat([][]int{make([]int, width)}, c.size))
				noTextOf(t, r, tensor)
				noTensorText(t, r, plainTensor(tensor, width))
			}
		}
		noTextOf(t, r, impl.Tensor{})
		for _, s := range []string{"", "=", "= ", "= 0", "= 1", "2:1 = 0", "2:1 =", "2:2 = 0 0", "= 0,0", "2:1", "= ,"} {
			noTensorText(t, r, s)
		}
	}
}

// A text over one ring is also a text over another one if all its elements are
// elements of that one too, and there it is the text of the same lists.
func TestTextsOverOtherRings(t *testing.T) {
	t.Parallel()
	for i, from := range ringCases {
		for _, c := range axesCases[:12] {
			tensor := tensorWith(c.axes, elemsFor(from.r, c.size, i))
			text := impl.FormatTensor(from.r, tensor)
			for _, to := range ringCases {
				right := to.width == from.width && slices.Max(tensor.Data) <= to.top
				if sameText(t, to.r, text, to.width, to.top) != right {
					t.Errorf("%q of %v over %v: not %t", text, from.r, to.r, right)
				}
			}
		}
	}
	noTensorText(t, modRing(5), "2:2 5:3 = 0 1 2 3 4 5")
	noTensorText(t, boolRing(), "2:2 = 0 2")
	noTensorText(t, polyRing(7, 2), "2:2 = 0 1")
	noTensorText(t, modRing(7), "2:2 = 0,1 1,0")
	noTensorText(t, polyRing(7, 3), "2:3 = 0,1 1,0 1,1")
	noTensorText(t, polyRing(7, 2), "2:2 = 0,1,1 1,0,1")
	noTensorText(t, polyRing(7, 4), "2:1 = 0,1,1")
	noTensorText(t, omegaRing(17), "2:2 = 0,1 1,0")
	noTensorText(t, setRing(3), "= 8")
}

func TestEveryLabelAndDimensionInTexts(t *testing.T) {
	for n := -1100; n <= 1100; n++ {
		number := strconv.Itoa(n)
		for _, s := range []string{
			number + ":1 = 1", number + ":2 = 1 0", "4:2 " + number + ":1 = 0 1", number + ":2 98:1 = 0 1", number + ":1 " + number + ":1 = 1",
			"4:" + number + " =" + strings.Repeat(" 1", max(n, 0)),
			"4:" + number + " 0:1 =" + strings.Repeat(" 1", max(n, 0)),
			"4:1 99:" + number + " =" + strings.Repeat(" 1", max(n, 0)),
		} {
			sameText(t, boolRing(), s, 1, 1)
		}
	}
	for _, s := range notInts {
		noTensorText(t, boolRing(), s+":1 = 1")
		noTensorText(t, boolRing(), "2:"+s+" = 1")
		noTensorText(t, boolRing(), "3:1 "+s+":1 = 1")
		noTensorText(t, boolRing(), s+":1 2:1 = 1")
		noTensorText(t, boolRing(), "3:1 2:"+s+" = 1")
		noTensorText(t, boolRing(), "2:"+s+" 3:1 = 1")
		noTensorText(t, boolRing(), s+" = 1")
	}
}

// A text of n elements 1 behind the given axes.
func textOfOnes(a axes, n int) string {
	return plainTensor(impl.Tensor{Labels: a.labels, Dims: a.dims, Data: slices.Repeat([]int{1}, n)}, 1)
}

func TestLimitsOfTexts(t *testing.T) {
	t.Parallel()
	for rank := range 20 {
		for _, last := range []int{1, 2, 8} {
			dims := slices.Repeat([]int{1}, rank)
			if rank > 0 {
				dims[rank-1] = last
			}
			a := axes{labelsFrom(rank, rank), dims}
			if right := sameText(t, boolRing(), textOfOnes(a, countOf(dims)), 1, 1); right != (rank <= 12) {
				t.Errorf("a text of %v: %t", a, right)
			}
		}
	}
	for _, dims := range [][]int{
		{8, 8, 8, 8}, {8, 8, 8, 7}, {4, 4, 4, 8, 8}, {8, 8, 4, 4, 4}, {5, 5, 5, 5, 6}, {2, 2, 2, 2, 2, 2, 2, 2, 2, 2, 2, 2}, {8, 1, 8, 1, 8, 1, 8, 1}, {8, 8, 8, 1, 1, 8},
		{8, 8, 8, 8, 2}, {5, 5, 5, 5, 7}, {2, 8, 8, 8, 8}, {4, 4, 4, 4, 4, 5}, {2, 2, 2, 2, 2, 2, 2, 2, 2, 2, 2, 3}, {8, 8, 8, 8, 8}, {3, 3, 3, 3, 3, 3, 3, 2},
	} {
		a := axes{labelsFrom(7, len(dims)), dims}
		size := countOf(dims)
		for _, n := range []int{0, 1, 2, 7, 8, 64, size / 2, size - 8, size - 1, size, size + 1, size + 8, 2 * size, 4095, 4096, 4097} {
			right := sameText(t, modRing(2), textOfOnes(a, n), 1, 1)
			if right != (n == size && size <= 4096) {
				t.Errorf("a text of %v with %d elements: %t", a, n, right)
			}
		}
	}
	// Products that would be small again if they overflowed.
	for _, d := range []string{"4294967296", "2147483648", "65536", "-4294967296", "6074001001", "-1"} {
		for rank := 2; rank <= 5; rank++ {
			var parts []string
			for label := range rank {
				parts = append(parts, strconv.Itoa(label)+":"+d)
			}
			noTensorText(t, boolRing(), strings.Join(parts, " ")+" = 1")
			noTensorText(t, boolRing(), strings.Join(parts, " ")+" =")
		}
	}
}

// Every number of elements of tensors with up to three axes.
func TestNumbersOfElementsInTexts(t *testing.T) {
	t.Parallel()
	r := modRing(2)
	for _, dims := range listsOf(3, 0, 1, 2, 3, 4) {
		a := axes{labelsFrom(60, len(dims)), dims}
		for n := range 70 {
			sameText(t, r, textOfOnes(a, n), 1, 1)
		}
	}
}

func TestShortTextsOfTensors(t *testing.T) {
	t.Parallel()
	found := map[string]bool{}
	for _, s := range textsUpTo(6, "0", "1", "2", ":", "=", " ", "-") {
		if sameText(t, boolRing(), s, 1, 1) {
			found[s] = true
		}
	}
	for _, s := range []string{"= 0", "= 1"} {
		if !found[s] {
			t.Errorf("%q is not among the short texts", s)
		}
	}
	if len(found) != 2 {
		t.Errorf("%d of the short texts are tensors, not 2", len(found))
	}
	// Axes and elements of one part each.
	for _, letters := range [][]string{
		{"0:1", "0:2", "1:1", "0", ":", "= ", "=", " ", " 0", " 1"},
		{"2:1 ", "2:2 ", "5:1 ", "5", ":1", "=", " 1", "1 ", " 0 1", ","},
	} {
		count := 0
		for _, s := range textsUpTo(5, letters...) {
			if sameText(t, modRing(3), s, 1, 2) {
				count++
			}
		}
		if count < 15 {
			t.Errorf("only %d of the texts of %v are tensors", count, letters)
		}
	}
	count := 0
	for _, s := range textsUpTo(6, "1:2", "1:1", " = ", " ", ",", "0", "2") {
		if sameText(t, polyRing(3, 2), s, 2, 2) {
			count++
		}
	}
	if count < 5 {
		t.Errorf("only %d of the texts with commas are tensors", count)
	}
}

func TestChangedTextsOfTensors(t *testing.T) {
	t.Parallel()
	letters := []string{" ", "  ", "0", "1", "2", "8", "9", "-", "+", ",", ",,", ":", "::", "=", " = ", "==", ":1", "1:", "3:1 ", " 0", "0 ", ",0", "0,", ".", ";", "\n", "\t", "\x00", "\xff", "a", "_", "\u00a0", "\uff1a", "\uff0c"}
	right := 0
	for _, c := range tensorTexts {
		for _, s := range changed(c.text, letters...) {
			if sameText(t, c.r, s, impl.RingWidth(c.r), topOf(c.r)) {
				right++
			}
		}
	}
	if right < 1000 {
		t.Errorf("only %d changed texts are those of tensors", right)
	}
}

// Parts that are left out, doubled, exchanged, or joined with the next one.
func TestTextsWithOtherParts(t *testing.T) {
	for _, c := range tensorTexts {
		parts := strings.Split(c.text, " ")
		for i := range parts {
			for j := range parts {
				moved := slices.Clone(parts)
				moved[i], moved[j] = moved[j], moved[i]
				sameText(t, c.r, strings.Join(moved, " "), impl.RingWidth(c.r), topOf(c.r))
				sameText(t, c.r, strings.Join(slices.Insert(slices.Clone(parts), i, parts[j]), " "), impl.RingWidth(c.r), topOf(c.r))
			}
			sameText(t, c.r, strings.Join(slices.Delete(slices.Clone(parts), i, i+1), " "), impl.RingWidth(c.r), topOf(c.r))
			for _, by := range []string{"", ",", ":", "=", "  ", "\t", "\n", "\u00a0", ", ", " ,", ";"} {
				sameText(t, c.r, strings.Join(parts[:i], " ")+by+strings.Join(parts[i:], " "), impl.RingWidth(c.r), topOf(c.r))
			}
		}
	}
}

func TestEveryElementInTexts(t *testing.T) {
	for _, c := range ringCases {
		for _, x := range allElems(c.r, c.width, c.top) {
			comesBack(t, c.r, impl.ScalarTensor(c.r, x), "= "+impl.FormatElem(c.r, x))
			comesBack(t, c.r, impl.Tensor{Labels: []int{3}, Dims: []int{2}, Data: slices.Concat(c.one, x)}, "3:2 = "+plainText(c.one)+" "+plainText(x))
		}
		for _, x := range notElems(c.width, c.top) {
			text := plainText(x)
			noTensorText(t, c.r, "= "+text)
			noTensorText(t, c.r, "3:2 = "+plainText(c.one)+" "+text)
			noTensorText(t, c.r, "3:2 = "+text+" "+plainText(c.one))
			noTensorText(t, c.r, "3:3 = "+plainText(c.one)+" "+text+" "+plainText(c.zero))
		}
		for _, s := range notInts {
			for i := range c.width {
				parts := strings.Split(plainText(c.one), ",")
				parts[i] = s
				noTensorText(t, c.r, "= "+strings.Join(parts, ","))
				noTensorText(t, c.r, "3:2 = "+plainText(c.one)+" "+strings.Join(parts, ","))
			}
		}
	}
	for _, n := range []int{math.MinInt, math.MaxInt} {
		noTensorText(t, capRing(1000000), "= "+strconv.Itoa(n))
	}
}

// Elements are not told apart by the number of their integers alone: the parts
// of two of them may have as many in all as two elements have.
func TestElementsOfWrongLengthInTexts(t *testing.T) {
	for width := 1; width <= 6; width++ {
		r := polyRing(7, width)
		for first := range 2*width + 2 {
			for second := range 2*width + 2 {
				s := "3:2 = " + plainText(slices.Repeat([]int{3}, first)) + " " + plainText(slices.Repeat([]int{5}, second))
				if right := sameText(t, r, s, width, 6); right != (first == width && second == width) {
					t.Errorf("over %v ParseTensor of %q: %t", r, s, right)
				}
			}
		}
	}
}

// All tensors of few axes have different texts.
func TestTextsOfAllSmallTensors(t *testing.T) {
	texts := map[string]bool{}
	all := smallTensors()
	for _, tensor := range all {
		text := impl.FormatTensor(boolRing(), tensor)
		comesBack(t, boolRing(), tensor, text)
		texts[text] = true
	}
	if len(texts) != len(all) {
		t.Errorf("%d tensors have %d texts", len(all), len(texts))
	}
}

func TestChangedTensorsComeBack(t *testing.T) {
	for _, r := range fullRings() {
		width := impl.RingWidth(r)
		for i, c := range axesCases {
			tensor := tensorWith(c.axes, elemsFor(r, c.size, i))
			for _, order := range someOrders(c.labels) {
				permuted := permute(t, r, tensor, order)
				comesBack(t, r, permuted, plainTensor(permuted, width))
				got, _ := impl.ParseTensor(r, impl.FormatTensor(r, permuted))
				same(t, r, got, tensor, true)
				if c.size > 1000 {
					break
				}
			}
			if len(c.labels) == 0 {
				continue
			}
			own := fused(t, r, tensor, c.labels[:1], freeLabel)
			comesBack(t, r, own, plainTensor(own, width))
			slice := sliced(t, r, tensor, c.labels[0], c.dims[0]-1)
			comesBack(t, r, slice, plainTensor(slice, width))
		}
	}
}

func TestTensorsAndTextsStay(t *testing.T) {
	for _, r := range fullRings() {
		for i, c := range axesCases {
			before := tensorWith(c.axes, elemsFor(r, c.size, i))
			tensor := spareTensor(before)
			letters := []byte(plainTensor(before, impl.RingWidth(r)))
			s := string(letters)
			for range 2 {
				// What a result shares with another one or the text changes here.
				text := impl.FormatTensor(r, tensor)
				if text != s || inside(text, s) {
					t.Errorf("over %v FormatTensor of %v: %.200q", r, c.axes, text)
				}
				first, ok := impl.ParseTensor(r, s)
				second, again := impl.ParseTensor(r, s)
				spoilTensor(first)
				sameTensor(t, "the tensor of a text", second, before)
				spoilTensor(second)
				if !ok || !again || s != string(letters) {
					t.Errorf("ParseTensor(%v, %.200q) fails", r, s)
				}
			}
			stays(t, "a part of a tensor", tensor, before)
		}
	}
}

func TestPartsOfTensorsOfTextsAreApart(t *testing.T) {
	first, _ := impl.ParseTensor(capRing(1), "1:1 = 1")
	second, _ := impl.ParseTensor(boolRing(), "1:1 = 1")
	partsApart(t, []int{1}, first, second)
	l := []int{1, 2}
	text := impl.FormatTensor(modRing(7), impl.Tensor{Labels: l, Dims: l, Data: l})
	if text != "1:1 2:2 = 1 2" {
		t.Errorf("the text of a tensor whose lists share their memory: %q", text)
	}
	// To make a list longer changes no other one.
	third, _ := impl.ParseTensor(modRing(7), text)
	_, _ = append(third.Labels, 8, 8, 8), append(third.Dims, 9, 9, 9)
	sameTensor(t, "the tensor of a text", third, impl.Tensor{Labels: l, Dims: l, Data: l})
}

func TestInvalidTensorsStayWithTexts(t *testing.T) {
	for _, before := range brokenTensors {
		tensor := spareTensor(before)
		for range 2 {
			noTextOf(t, polyRing(7, 2), tensor)
			noTextOf(t, impl.Ring{}, tensor)
		}
		stays(t, "a part of a tensor", tensor, before)
	}
	for _, s := range []string{"2:1 = 1", "2:1 = 1 1", "2:1 2:1 = 1", "9"} {
		letters := []byte(s)
		text := string(letters)
		noTensorText(t, polyRing(7, 2), text)
		noTensorText(t, impl.Ring{}, text)
		if text != s {
			t.Errorf("%q has become %q", s, text)
		}
	}
}
