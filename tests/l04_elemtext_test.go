package tests

import (
	"math"
	"regexp"
	"slices"
	"strconv"
	"strings"
	"testing"

	"loop.example/g03211/impl"
)

// ringTexts has the least and the greatest rings of each kind.
var ringTexts = []struct {
	r    impl.Ring
	text string
}{
	{boolRing(), "bool"},
	{modRing(2), "mod 2"},
	{modRing(3), "mod 3"},
	{modRing(101), "mod 101"},
	{modRing(1000003), "mod 1000003"},
	{capRing(1), "cap 1"},
	{capRing(10), "cap 10"},
	{capRing(1000000), "cap 1000000"},
	{minRing(1), "min 1"},
	{minRing(4), "min 4"},
	{minRing(1000000), "min 1000000"},
	{wideRing(1), "wide 1"},
	{wideRing(9), "wide 9"},
	{wideRing(1000000), "wide 1000000"},
	{setRing(1), "set 1"},
	{setRing(4), "set 4"},
	{setRing(20), "set 20"},
	{polyRing(2, 1), "poly 2 1"},
	{polyRing(2, 6), "poly 2 6"},
	{polyRing(3, 2), "poly 3 2"},
	{polyRing(5, 3), "poly 5 3"},
	{polyRing(1000003, 1), "poly 1000003 1"},
	{polyRing(1000003, 6), "poly 1000003 6"},
	{omegaRing(3), "omega 3"},
	{omegaRing(17), "omega 17"},
	{omegaRing(1000003), "omega 1000003"},
}

var notRingTexts = []string{
	// No kinds.
	"", " ", "  ", "0", "1", "2 7", "7", "5 3", " 5", "ring", "ring 5", "integer", "int 5", "boolean", "bo", "boo", "boolbool",
	"Bool", "BOOL", "Mod 7", "MOD 7", "modulo 7", "mo 7", "modd 7", "max 7", "minmax 7", "width 7", "wid 7", "sets 3",
	"polynomial 5 3", "pol 5 3", "omeg 17", "omega4 17", "w 17", "RMod 7", "{2 7 0}", "mod\x00 7", "\ufeffmod 7", "mod\u0131 7",
	// Numbers that a kind does not have.
	"bool 0", "bool 1", "bool 2", "bool 0 0", "bool -1", "mod 7 0", "mod 7 1", "mod 0 7", "mod 7 7", "mod 7 -1", "cap 5 0", "cap 5 1",
	"min 5 0", "min 5 1", "wide 5 0", "wide 5 1", "set 0 4", "set 2 4", "set 4 0", "set 4 4", "poly 5 3 0", "poly 5 3 1", "poly 5 3 2 1",
	"omega 17 0", "omega 17 1", "omega 17 4", "omega 17 17", "mod 7 7 7", "bool 1 2 3", "set 1 2 3",
	// Numbers that are missing.
	"mod", "cap", "min", "wide", "set", "poly", "poly 5", "omega",
	// Numbers out of range, and no primes.
	"mod 0", "mod 1", "mod 4", "mod 9", "mod 1000001", "mod 1000033", "mod -7", "mod -2",
	"cap 0", "cap -1", "cap 1000001", "min 0", "min -1", "min 1000001", "wide 0", "wide -1", "wide 1000001",
	"set 0", "set -1", "set 21", "set 64", "set 65", "poly 1 2", "poly 4 2", "poly 0 2", "poly 1000033 2", "poly 5 0", "poly 5 -1",
	"poly 5 7", "poly 3 5 ", "poly 3 1000003", "poly 6 5", "omega 1", "omega 2", "omega 9", "omega 1000033", "omega -17",
	"mod 9223372036854775807", "cap 9223372036854775807", "set 9223372036854775807", "poly 5 9223372036854775807",
	// They would be in range if they were smaller by a power of two.
	"mod 4294967303", "cap 4294967297", "set 4294967300", "mod 18446744073709551623", "cap 18446744073709551617", "set 18446744073709551620",
	"poly 5 18446744073709551619", "poly 18446744073709551621 3", "omega 18446744073709551633",
	// Other forms of numbers.
	"mod +7", "mod 07", "mod 007", "mod -0", "mod 7.0", "mod 7,0", "mod 0x7", "mod 7e0", "mod 1_01", "mod seven", "mod x", "mod 7x", "mod x7",
	"cap 01", "min +1", "wide 0009", "set 04", "set +4", "set -4", "poly 05 3", "poly 5 03", "poly +5 3", "poly 5 +3", "poly 5 x", "poly x 3",
	"omega +17", "omega 017", "mod \uff17", "mod \u0667", "mod 7\xff", "mod \xff7", "mod 7\x00",
	// Other spaces, and what stands in their place.
	" bool", "bool ", "bool  ", "\tbool", "bool\n", "\nbool", "bool\x00", " mod 7", "mod 7 ", "mod  7", "mod\t7", "mod\n7", "mod 7\n", "mod7", "mod,7",
	"mod-7", "mod:7", "mod\u00a07", "mod ", "mod  ", "set ", "set  4", "set 4 ", " set 4", "poly 5  3", "poly  5 3", "poly 5 3 ", " poly 5 3", "poly 5,3",
	"poly 5\t3", "poly 5\n3", "poly5 3", "poly5,3", "poly53", "poly 53", "poly ", "poly 5 ", "poly  3", "omega  17", "omega 17 ", "omega\u200317",
	// More than one.
	"bool bool", "bool\nbool", "mod 7 mod 7", "mod 7\nmod 7", "7 mod", "3 5 poly", "poly 5 3,1", "mod mod 7", "bool mod 7", "mod bool", "cap 5 min 5",
}

func noRing(t *testing.T, s string) {
	t.Helper()
	if got, ok := impl.ParseRing(s); got != (impl.Ring{}) || ok {
		t.Errorf("ParseRing(%q): %v %t, not the zero value and false", s, got, ok)
	}
}

func TestTextsOfRings(t *testing.T) {
	for _, c := range ringTexts {
		if got := impl.FormatRing(c.r); got != c.text {
			t.Errorf("FormatRing(%v): %q, not %q", c.r, got, c.text)
		}
		if got, ok := impl.ParseRing(c.text); got != c.r || !ok {
			t.Errorf("ParseRing(%q): %v %t, not %v", c.text, got, ok, c.r)
		}
	}
	for _, s := range notRingTexts {
		noRing(t, s)
	}
	noRing(t, "mod "+strings.Repeat("9", 100000))
	noRing(t, "mod"+strings.Repeat(" 7", 100000))
	noRing(t, strings.Repeat("mod ", 100000)+"7")
}

// kindTexts and ringPattern say once more, for the tests, what chapter 5 says.
var kindTexts = []string{"", "bool", "mod", "cap", "min", "wide", "set", "poly", "omega"}

var ringPattern = regexp.MustCompile(`\A(bool|mod|cap|min|wide|set|poly|omega)(?: ([1-9][0-9]{0,9}))?(?: ([1-9][0-9]{0,9}))?\z`)

var sieve = primesUpTo(1000003)

func isRing(r impl.Ring) bool {
	return widthByText(r, r.P >= 0 && r.P < len(sieve) && sieve[r.P]) > 0
}

// wantedRing reads the text of a ring by its pattern. The zero value is none.
func wantedRing(s string) impl.Ring {
	parts := ringPattern.FindStringSubmatch(s)
	if parts == nil {
		return impl.Ring{}
	}
	p, _ := strconv.Atoi(parts[2])
	n, _ := strconv.Atoi(parts[3])
	r := impl.Ring{Kind: slices.Index(kindTexts, parts[1]), P: p, N: n}
	if parts[1] == "set" && parts[3] == "" {
		r = setRing(p)
	}
	if !isRing(r) {
		return impl.Ring{}
	}
	return r
}

func wantedRingText(r impl.Ring) string {
	if !isRing(r) {
		return ""
	}
	text := kindTexts[r.Kind]
	if r.P != 0 {
		text += " " + strconv.Itoa(r.P)
	}
	if r.N != 0 {
		text += " " + strconv.Itoa(r.N)
	}
	return text
}

func sameRing(t *testing.T, s string) {
	t.Helper()
	want := wantedRing(s)
	if got, ok := impl.ParseRing(s); got != want || ok != (want.Kind != 0) {
		t.Errorf("ParseRing(%q): %v %t, not %v", s, got, ok, want)
	}
}

func TestTextsOfManyRings(t *testing.T) {
	ps := []int{math.MinInt, -1000003, -7, -2, -1, 999982, 999983, 999999, 1000000, 1000001, 1000002, 1000003, 1000004, 1000033, 1<<32 + 7, math.MaxInt}
	ns := []int{math.MinInt, -20, -1, 1<<32 + 1, math.MaxInt}
	for k := range 130 {
		ps = append(ps, k)
		ns = append(ns, k/4)
	}
	ns = slices.Compact(ns)
	for kind := -2; kind <= 10; kind++ {
		for _, p := range ps {
			for _, n := range ns {
				r := impl.Ring{Kind: kind, P: p, N: n}
				text := impl.FormatRing(r)
				if text != wantedRingText(r) {
					t.Errorf("FormatRing(%v): %q, not %q", r, text, wantedRingText(r))
				}
				if got, ok := impl.ParseRing(text); ok != isRing(r) || ok && got != r || !ok && got != (impl.Ring{}) {
					t.Errorf("%v comes back as %v %t", r, got, ok)
				}
			}
		}
	}
	for _, r := range notRings {
		if got := impl.FormatRing(r); got != "" {
			t.Errorf("FormatRing(%v): %q, not empty", r, got)
		}
	}
}

// TestNumbersOfNoRing writes all numbers, also those out of range, in the form
// that FormatRing would give them.
func TestNumbersOfNoRing(t *testing.T) {
	numbers := []int{math.MinInt, -1000003, -21, 999983, 999999, 1000000, 1000001, 1000003, 1000004, 1000033, 2000000, math.MaxInt}
	for k := -8; k <= 24; k++ {
		numbers = append(numbers, k)
	}
	for _, kind := range kindTexts {
		sameRing(t, kind)
		for _, p := range numbers {
			first := kind + " " + strconv.Itoa(p)
			sameRing(t, first)
			for _, n := range numbers {
				sameRing(t, first+" "+strconv.Itoa(n))
				sameRing(t, first+" "+strconv.Itoa(n)+" 1")
			}
		}
	}
}

func TestShortTextsOfRings(t *testing.T) {
	found := map[impl.Ring]bool{}
	for _, s := range textsUpTo(5, "bool", "mod", "set", "poly", "omega", " ", "0", "1", "3", "-", "\n") {
		sameRing(t, s)
		found[wantedRing(s)] = true
	}
	for _, r := range []impl.Ring{boolRing(), modRing(3), modRing(13), modRing(131), setRing(11), polyRing(3, 1), polyRing(3, 3), omegaRing(3), omegaRing(31)} {
		if !found[r] {
			t.Errorf("%v is not among the rings of short texts", r)
		}
	}
}

// changed returns s with one letter less, with one more and with another one,
// at each place.
func changed(s string, letters ...string) []string {
	var texts []string
	for i := range len(s) + 1 {
		for _, letter := range letters {
			texts = append(texts, s[:i]+letter+s[i:])
			if i < len(s) {
				texts = append(texts, s[:i]+letter+s[i+1:])
			}
		}
		if i < len(s) {
			texts = append(texts, s[:i]+s[i+1:])
		}
	}
	return texts
}

func TestChangedTextsOfRings(t *testing.T) {
	for _, c := range ringTexts {
		for _, s := range changed(c.text, " ", "  ", "0", "1", "2", "3", "7", "9", "-", "+", ",", ".", "\n", "\t", "\x00", "\xff", "a", "m", "O", "\u00a0") {
			sameRing(t, s)
		}
	}
}

var elemTexts = []struct {
	r    impl.Ring
	x    []int
	text string
}{
	{boolRing(), []int{0}, "0"},
	{boolRing(), []int{1}, "1"},
	{modRing(7), []int{6}, "6"},
	{modRing(1000003), []int{1000002}, "1000002"},
	{capRing(5), []int{5}, "5"},
	{capRing(1000000), []int{1000000}, "1000000"},
	{minRing(100), []int{10}, "10"},
	{minRing(1000000), []int{1000000}, "1000000"},
	{wideRing(3), []int{0}, "0"},
	{wideRing(1000000), []int{999999}, "999999"},
	{setRing(4), []int{15}, "15"},
	{setRing(20), []int{1048575}, "1048575"},
	{polyRing(5, 1), []int{4}, "4"},
	{polyRing(5, 2), []int{0, 0}, "0,0"},
	{polyRing(5, 3), []int{1, 0, 2}, "1,0,2"},
	{polyRing(5, 3), []int{0, 0, 1}, "0,0,1"},
	{polyRing(101, 4), []int{100, 10, 0, 1}, "100,10,0,1"},
	{polyRing(2, 5), []int{0, 1, 1, 0, 1}, "0,1,1,0,1"},
	{polyRing(7, 6), []int{1, 2, 3, 4, 5, 6}, "1,2,3,4,5,6"},
	{polyRing(1000003, 6), []int{1000002, 0, 1000002, 1, 10, 1000002}, "1000002,0,1000002,1,10,1000002"},
	{omegaRing(3), []int{2, 1, 0, 2}, "2,1,0,2"},
	{omegaRing(1000003), []int{1, 1000002, 0, 999999}, "1,1000002,0,999999"},
}

func noElem(t *testing.T, r impl.Ring, s string) {
	t.Helper()
	if got, ok := impl.ParseElem(r, s); got != nil || ok {
		t.Errorf("ParseElem(%v, %q): %v %t, not nil and false", r, s, got, ok)
	}
}

func TestTextsOfElems(t *testing.T) {
	for _, c := range elemTexts {
		if got := impl.FormatElem(c.r, c.x); got != c.text {
			t.Errorf("FormatElem(%v, %v): %q, not %q", c.r, c.x, got, c.text)
		}
		if got, ok := impl.ParseElem(c.r, c.text); !slices.Equal(got, c.x) || !ok {
			t.Errorf("ParseElem(%v, %q): %v %t, not %v", c.r, c.text, got, ok, c.x)
		}
	}
}

// plainText writes any list in the form of an element.
func plainText(x []int) string {
	text := ""
	for _, n := range x {
		text += "," + strconv.Itoa(n)
	}
	return strings.TrimPrefix(text, ",")
}

func TestTextsOfManyElems(t *testing.T) {
	for _, c := range ringCases {
		for _, x := range allElems(c.r, c.width, c.top) {
			text := impl.FormatElem(c.r, x)
			if text != plainText(x) {
				t.Errorf("FormatElem(%v, %v): %q, not %q", c.r, x, text, plainText(x))
			}
			if got, ok := impl.ParseElem(c.r, text); !slices.Equal(got, x) || !ok {
				t.Errorf("ParseElem(%v, %q): %v %t", c.r, text, got, ok)
			}
		}
	}
}

func TestTextsOfNoElems(t *testing.T) {
	t.Parallel()
	for _, c := range ringCases {
		for _, x := range notElems(c.width, c.top) {
			if got := impl.FormatElem(c.r, x); got != "" {
				t.Errorf("FormatElem(%v, %v): %q, not empty", c.r, x, got)
			}
			noElem(t, c.r, plainText(x))
		}
		for _, s := range notRingTexts {
			// These are elements of rings of width 1.
			if s != "0" && s != "1" && s != "7" {
				noElem(t, c.r, s)
			}
		}
		for _, x := range []string{"1", "1,0", "1,0,1", "1,0,1,0", "1,0,1,0,1", "1,0,1,0,1,0", "1,0,1,0,1,0,1"} {
			got, ok := impl.ParseElem(c.r, x)
			if right := strings.Count(x, ",")+1 == c.width; ok != right || (got != nil) != right {
				t.Errorf("ParseElem(%v, %q): %v %t", c.r, x, got, ok)
			}
		}
		noElem(t, c.r, strings.Repeat("9", 100000))
		noElem(t, c.r, "0"+strings.Repeat(",0", 100000))
		noElem(t, c.r, strings.Repeat(",", 100000))
	}
}

func TestTextsOfElemsOfInvalidRings(t *testing.T) {
	for _, r := range notRings {
		for _, x := range [][]int{nil, {}, {0}, {1}, {0, 0}, {1, 0}, {1, 0, 0, 0}, make([]int, 7)} {
			if got := impl.FormatElem(r, x); got != "" {
				t.Errorf("FormatElem(%v, %v): %q, not empty", r, x, got)
			}
			noElem(t, r, plainText(x))
		}
		noElem(t, r, "a")
		noElem(t, r, ",")
	}
}

var intPattern = regexp.MustCompile(`\A(0|[1-9][0-9]{0,9})\z`)

// wantedElem reads the text of an element part by part; nil if it is none.
func wantedElem(s string, width int, top int) []int {
	parts := strings.Split(s, ",")
	if len(parts) != width {
		return nil
	}
	x := make([]int, width)
	for i, part := range parts {
		if !intPattern.MatchString(part) {
			return nil
		}
		n, _ := strconv.Atoi(part)
		if n > top {
			return nil
		}
		x[i] = n
	}
	return x
}

func sameElem(t *testing.T, r impl.Ring, s string, width int, top int) {
	t.Helper()
	want := wantedElem(s, width, top)
	if got, ok := impl.ParseElem(r, s); !slices.Equal(got, want) || ok != (want != nil) || !ok && got != nil {
		t.Errorf("ParseElem(%v, %q): %v %t, not %v", r, s, got, ok, want)
	}
}

func TestChangedTextsOfElems(t *testing.T) {
	letters := []string{" ", "0", "1", "2", "7", "9", "-", "+", ",", ",,", ", ", " ,", ",0", "0,", ".", ";", "\n", "\t", "\x00", "\xff", "a", "_", "\u00a0", "\uff0c"}
	for _, c := range ringCases {
		elems := edgeElems(c.r, c.width, c.top)
		for _, x := range elems[max(0, len(elems)-6):] {
			for _, s := range changed(plainText(x), letters...) {
				sameElem(t, c.r, s, c.width, c.top)
			}
			text := plainText(x)
			for _, s := range []string{"[" + text + "]", strings.ReplaceAll(text, ",", " ") + " ", strings.ReplaceAll(text, ",", ", ") + " ", text + "," + text, text + " " + text} {
				noElem(t, c.r, s)
			}
		}
	}
}

func TestShortTextsOfElems(t *testing.T) {
	texts := textsUpTo(5, "0", "1", "2", "7", ",", "-", "+", " ", "\n")
	for _, r := range []impl.Ring{boolRing(), modRing(7), capRing(12), minRing(2), wideRing(70), setRing(3), polyRing(2, 1), polyRing(3, 2), polyRing(11, 2), polyRing(2, 3), omegaRing(3)} {
		for _, s := range texts {
			sameElem(t, r, s, impl.RingWidth(r), topOf(r))
		}
	}
	for _, s := range textsUpTo(8, "0", "2", "3", ",") {
		sameElem(t, omegaRing(3), s, 4, 2)
	}
	for _, s := range notInts {
		noElem(t, capRing(1000000), s)
		noElem(t, polyRing(1000003, 2), "1,"+s)
		noElem(t, polyRing(1000003, 2), s+",1")
		noElem(t, omegaRing(1000003), "1,2,"+s+",1")
	}
}

func TestElemsAndTextsStay(t *testing.T) {
	for _, c := range ringCases {
		elems := edgeElems(c.r, c.width, c.top)
		elem := elems[len(elems)-1]
		x := withSpare(elem, -9)
		letters := []byte(plainText(elem))
		s := string(letters)
		impl.FormatElem(c.r, x)
		first, ok := impl.ParseElem(c.r, s)
		second, again := impl.ParseElem(c.r, s)
		spoil(first, -5)
		third, once := impl.ParseElem(c.r, s)
		if !ok || !again || !once || s != string(letters) {
			t.Errorf("ParseElem(%v, %q) fails", c.r, s)
		}
		sameList(t, "an element", x[:len(elem)+3], append(slices.Clone(elem), -9, -9, -9))
		sameList(t, "the second element", second, elem)
		sameList(t, "the third element", third, elem)
		x[0] = c.top + 1
		impl.FormatElem(c.r, x)
		impl.FormatElem(c.r, x[:c.width-1])
		impl.FormatElem(impl.Ring{}, x)
		sameList(t, "an invalid element", x[:len(elem)+3], append(append([]int{c.top + 1}, elem[1:]...), -9, -9, -9))
	}
	text := string([]byte("poly 5 3"))
	for range 20 {
		// The order in which a map is gone through changes from call to call.
		if r, ok := impl.ParseRing(text); r != polyRing(5, 3) || !ok || impl.FormatRing(r) != text || inside(impl.FormatRing(r), text) {
			t.Errorf("ParseRing(%q): %v %t", text, r, ok)
		}
	}
}
