package tests

import (
	"math"
	"regexp"
	"slices"
	"strings"
	"testing"
	"unsafe"

	"loop.example/g03211/impl"
)

var intTexts = []struct {
	n    int
	text string
}{
	{0, "0"},
	{1, "1"},
	{-1, "-1"},
	{7, "7"},
	{10, "10"},
	{-10, "-10"},
	{100, "100"},
	{-12, "-12"},
	{1000003, "1000003"},
	{math.MaxInt32, "2147483647"},
	{math.MinInt32, "-2147483648"},
	{math.MaxInt32 + 1, "2147483648"},
	{math.MaxInt - 1, "9223372036854775806"},
	{math.MaxInt, "9223372036854775807"},
	{math.MinInt + 1, "-9223372036854775807"},
	{math.MinInt, "-9223372036854775808"},
}

var notInts = []string{
	"", " ", "-", "+", "--1", "-+1", "+-1", "+1", "+0", "-0", "00", "01", "012", "-01", "-00",
	"0000000000000000000000001", "1 ", " 1", "1 2", "1-", "1\n", "\n1", "\t1", "1\x00", "\x001",
	"a", "1a", "a1", "0x1", "0b1", "0o7", "1_000", "1,000", "1.0", "1.", ".1", "1e3", "1E3", "inf", "NaN",
	"9223372036854775808", "-9223372036854775809", "9999999999999999999",
	"18446744073709551615", "18446744073709551616", "18446744073709551617", "-18446744073709551617",
	"1000000000000000000000000000000000000000", "-1000000000000000000000000000000000000000",
	"\xff", "1\xff", "\xff1", "\u0661", "\uff11", "\u22121", "\u00a01",
}

// textsUpTo returns all texts over the letters with at most n of them.
func textsUpTo(n int, letters ...string) []string {
	all := []string{""}
	start := 0
	for range n {
		end := len(all)
		for _, s := range all[start:end] {
			for _, letter := range letters {
				all = append(all, s+letter)
			}
		}
		start = end
	}
	return all
}

func sameList[E comparable](t *testing.T, what string, got []E, want []E) {
	t.Helper()
	if !slices.Equal(got, want) {
		t.Errorf("%q: %#v, not %#v", what, got, want)
	}
}

func TestFormatInt(t *testing.T) {
	for _, c := range intTexts {
		if got := impl.FormatInt(c.n); got != c.text {
			t.Errorf("FormatInt(%d): %q, not %q", c.n, got, c.text)
		}
	}
}

func TestParseInt(t *testing.T) {
	for _, c := range intTexts {
		if got, ok := impl.ParseInt(c.text); got != c.n || !ok {
			t.Errorf("ParseInt(%q): %d %t", c.text, got, ok)
		}
	}
	for _, s := range notInts {
		if got, ok := impl.ParseInt(s); got != 0 || ok {
			t.Errorf("ParseInt(%q): %d %t, not 0 false", s, got, ok)
		}
	}
	if got, ok := impl.ParseInt(strings.Repeat("9", 100000)); got != 0 || ok {
		t.Errorf("ParseInt of many digits: %d %t, not 0 false", got, ok)
	}
}

func TestParseIntShortTexts(t *testing.T) {
	written := regexp.MustCompile(`\A(0|-?[1-9][0-9]*)\z`)
	for _, s := range textsUpTo(4, "0", "1", "9", "-", "+", " ", "_", "x", "\n") {
		n, ok := impl.ParseInt(s)
		if ok != written.MatchString(s) {
			t.Errorf("ParseInt(%q): %d %t", s, n, ok)
		}
		if ok && impl.FormatInt(n) != s || !ok && n != 0 {
			t.Errorf("ParseInt(%q): %d %t is not the int of the text", s, n, ok)
		}
	}
}

func TestIntsComeBack(t *testing.T) {
	comesBack := func(n int) {
		if got, ok := impl.ParseInt(impl.FormatInt(n)); got != n || !ok {
			t.Errorf("%d comes back as %d %t", n, got, ok)
		}
	}
	for n := -2000; n <= 2000; n++ {
		comesBack(n)
		comesBack(math.MinInt + 2000 + n)
		comesBack(math.MaxInt - 2000 + n)
	}
	for bit := range 64 {
		comesBack(1 << bit)
		comesBack(1<<bit - 1)
		comesBack(-1 << bit)
		comesBack(-1<<bit + 1)
	}
}

func TestWords(t *testing.T) {
	for _, c := range []struct {
		s    string
		want []string
	}{
		{"", nil},
		{" ", nil},
		{"     ", nil},
		{"a", []string{"a"}},
		{"ab", []string{"ab"}},
		{" a", []string{"a"}},
		{"a ", []string{"a"}},
		{"   a   ", []string{"a"}},
		{"a b", []string{"a", "b"}},
		{"b a b", []string{"b", "a", "b"}},
		{" a  b ", []string{"a", "b"}},
		{"  one   two three  ", []string{"one", "two", "three"}},
		{"a\tb\nc\rd\ve\ff", []string{"a\tb\nc\rd\ve\ff"}},
		{"\n \t", []string{"\n", "\t"}},
		{"a\x00b \x00", []string{"a\x00b", "\x00"}},
		{"\u00a0 \u2003x\u3000", []string{"\u00a0", "\u2003x\u3000"}},
		// Runes whose lowest byte is that of a space.
		{"x\u0120y \u2020\U00010020", []string{"x\u0120y", "\u2020\U00010020"}},
		{"\xff \xfe\xff", []string{"\xff", "\xfe\xff"}},
		// A space in the middle of what would have been a longer rune.
		{"\xe2 \x82\xac", []string{"\xe2", "\x82\xac"}},
		{"\xf0\x9f \x98", []string{"\xf0\x9f", "\x98"}},
		{"\xc3 ", []string{"\xc3"}},
		{"\ufffd \xef\xbf", []string{"\ufffd", "\xef\xbf"}},
	} {
		sameList(t, "Words of "+c.s, impl.Words(c.s), c.want)
	}
}

func TestSplitLines(t *testing.T) {
	for _, c := range []struct {
		s    string
		want []string
	}{
		{"", nil},
		{"\n", []string{""}},
		{"\n\n", []string{"", ""}},
		{"\n\n\n", []string{"", "", ""}},
		{"a", []string{"a"}},
		{"a\n", []string{"a"}},
		{"a\n\n", []string{"a", ""}},
		{"\na", []string{"", "a"}},
		{"\na\n", []string{"", "a"}},
		{"a\nb", []string{"a", "b"}},
		{"a\nb\n", []string{"a", "b"}},
		{"a\n\nb", []string{"a", "", "b"}},
		{"b\na\nb\n", []string{"b", "a", "b"}},
		{" ", []string{" "}},
		{" \n ", []string{" ", " "}},
		{"a  b \n c", []string{"a  b ", " c"}},
		{"a\r\nb\r\n", []string{"a\r", "b\r"}},
		{"a\rb\vc\fd", []string{"a\rb\vc\fd"}},
		{"\x00\n\x00", []string{"\x00", "\x00"}},
		{"a\u0085b\u2028c\u2029d", []string{"a\u0085b\u2028c\u2029d"}},
		// Runes whose lowest byte is that of a newline.
		{"x\u010ay\n\u200a\U0001000a", []string{"x\u010ay", "\u200a\U0001000a"}},
		{"\xff\n\xfe\xff", []string{"\xff", "\xfe\xff"}},
		// A newline in the middle of what would have been a longer rune.
		{"\xe2\n\x82\xac", []string{"\xe2", "\x82\xac"}},
		{"\xf0\x9f\n", []string{"\xf0\x9f"}},
		{"\n\xc3", []string{"", "\xc3"}},
	} {
		sameList(t, "SplitLines of "+c.s, impl.SplitLines(c.s), c.want)
	}
}

// wordsByByte goes through the bytes of s and knows nothing of runes.
func wordsByByte(s string) []string {
	var words []string
	for i := 0; i < len(s); i++ {
		if s[i] == ' ' {
			continue
		}
		if i == 0 || s[i-1] == ' ' {
			words = append(words, "")
		}
		words[len(words)-1] += s[i : i+1]
	}
	return words
}

func linesByByte(s string) []string {
	var lines []string
	for i := 0; i < len(s); i++ {
		if i == 0 || s[i-1] == '\n' {
			lines = append(lines, "")
		}
		if s[i] != '\n' {
			lines[len(lines)-1] += s[i : i+1]
		}
	}
	return lines
}

func TestPartsOfShortTexts(t *testing.T) {
	for _, s := range textsUpTo(5, "a", " ", "\n", "\xe2", "\x82", "\xac") {
		sameList(t, "Words of "+s, impl.Words(s), wordsByByte(s))
		sameList(t, "SplitLines of "+s, impl.SplitLines(s), linesByByte(s))
	}
}

func TestPartsAtEachByte(t *testing.T) {
	for b := range 256 {
		letter := string([]byte{byte(b)})
		s := "x" + letter + "y" + letter
		words, lines := []string{s}, []string{s}
		if b == 32 {
			words = []string{"x", "y"}
		}
		if b == 10 {
			lines = []string{"x", "y"}
		}
		sameList(t, "Words of "+s, impl.Words(s), words)
		sameList(t, "SplitLines of "+s, impl.SplitLines(s), lines)
	}
}

func TestLongTexts(t *testing.T) {
	const n = 100000
	if got := len(impl.Words(strings.Repeat(" ab  ", n))); got != n {
		t.Errorf("Words of a long text: %d", got)
	}
	if got := len(impl.SplitLines(strings.Repeat("ab\n", n))); got != n {
		t.Errorf("SplitLines of a long text: %d", got)
	}
	ints := make([]int, n)
	for i := range ints {
		ints[i] = i * i * (1 - i%2*2)
	}
	got, ok := impl.ParseInts(impl.FormatInts(ints))
	if !ok || !slices.Equal(got, ints) {
		t.Error("a long list of integers does not come back")
	}
}

func TestJoin(t *testing.T) {
	for _, c := range []struct {
		l    []string
		by   string
		want string
	}{
		{nil, "", ""},
		{nil, "-", ""},
		{[]string{}, "-", ""},
		{[]string{""}, "-", ""},
		{[]string{"a"}, "-", "a"},
		{[]string{"-"}, "-", "-"},
		{[]string{"a", "b"}, "-", "a-b"},
		{[]string{"a", "b", "c"}, "", "abc"},
		{[]string{"c", "b", "c"}, ", ", "c, b, c"},
		{[]string{"", ""}, "-", "-"},
		{[]string{"", "", ""}, "ab", "abab"},
		{[]string{"", "a", ""}, " ", " a "},
		{[]string{" a ", "b"}, "\n", " a \nb"},
		{[]string{"\xe2\x82", "\xac"}, "", "\u20ac"},
		{[]string{"\xff", "\x00"}, "\xfe\n", "\xff\xfe\n\x00"},
	} {
		if got := impl.Join(c.l, c.by); got != c.want {
			t.Errorf("Join(%q, %q): %q, not %q", c.l, c.by, got, c.want)
		}
	}
}

var listTexts = []struct {
	l    []int
	text string
}{
	{nil, ""},
	{[]int{0}, "0"},
	{[]int{-5}, "-5"},
	{[]int{1, -2}, "1 -2"},
	{[]int{0, 0, 0}, "0 0 0"},
	{[]int{3, 1, 2, 1}, "3 1 2 1"},
	{[]int{10, 200, -3000}, "10 200 -3000"},
	{[]int{math.MinInt, 0, math.MaxInt}, "-9223372036854775808 0 9223372036854775807"},
}

func TestFormatInts(t *testing.T) {
	for _, c := range listTexts {
		if got := impl.FormatInts(c.l); got != c.text {
			t.Errorf("FormatInts(%v): %q, not %q", c.l, got, c.text)
		}
	}
	if got := impl.FormatInts([]int{}); got != "" {
		t.Errorf("FormatInts of an empty list that is not nil: %q", got)
	}
}

func TestParseInts(t *testing.T) {
	for _, c := range listTexts {
		got, ok := impl.ParseInts(c.text)
		if !ok {
			t.Errorf("ParseInts(%q) fails", c.text)
		}
		sameList(t, "ParseInts of "+c.text, got, c.l)
	}
	for _, s := range []string{
		" ", "  ", " 1", "1 ", "1  2", " 1 2", "1 2 ", "1 2  ", "1\t2", "1\n2", "1 2\n", "\n", "1,2", "1, 2", "1-2",
		"1 -0", "-0 1", "1 02", "01 2", "+1 2", "1 +2", "1 - 2", "-", "1 -", "1 a", "a 1", "1 a 2", "1 0x2",
		"1 9223372036854775808", "-9223372036854775809 1", "1\u00a02", "1 \xff", "\xff 1", "1\x002", "1 2\x00",
	} {
		if got, ok := impl.ParseInts(s); len(got) != 0 || ok {
			t.Errorf("ParseInts(%q): %v %t, not nil false", s, got, ok)
		}
	}
	for _, s := range notInts {
		// These two are no integers, but lists of none and of two.
		if s == "" || s == "1 2" {
			continue
		}
		for _, text := range []string{s, s + " 1", "1 " + s, "1 " + s + " 2"} {
			if got, ok := impl.ParseInts(text); len(got) != 0 || ok {
				t.Errorf("ParseInts(%q): %v %t, not nil false", text, got, ok)
			}
		}
	}
}

func TestParseIntsShortTexts(t *testing.T) {
	written := regexp.MustCompile(`\A((0|-?[1-9][0-9]*)( (0|-?[1-9][0-9]*))*)?\z`)
	for _, s := range textsUpTo(5, "0", "1", "9", "-", " ", "\n") {
		l, ok := impl.ParseInts(s)
		if ok != written.MatchString(s) {
			t.Errorf("ParseInts(%q): %v %t", s, l, ok)
		}
		if ok && impl.FormatInts(l) != s || !ok && len(l) != 0 {
			t.Errorf("ParseInts(%q): %v %t is not the list of the text", s, l, ok)
		}
	}
}

// withSpare returns a copy of l that has three more elements, all x, behind its end.
func withSpare[E any](l []E, x E) []E {
	return append(slices.Clone(l), x, x, x)[:len(l)]
}

func TestArgumentsStay(t *testing.T) {
	texts := withSpare([]string{"b", "", "a"}, "spare")
	impl.Join(texts, ", ")
	impl.Join(texts[:0], ", ")
	impl.Join(texts[:1], ", ")
	sameList(t, "the list of Join", texts[:6], []string{"b", "", "a", "spare", "spare", "spare"})
	ints := withSpare([]int{3, -1, 2}, 99)
	impl.FormatInts(ints)
	impl.FormatInts(ints[:0])
	impl.FormatInts(ints[:1])
	sameList(t, "the list of FormatInts", ints[:6], []int{3, -1, 2, 99, 99, 99})
}

func TestTextsOfBytesStay(t *testing.T) {
	bytes := []byte("1 2\n\xff 3")
	s := string(bytes)
	impl.ParseInt(s)
	impl.Words(s)
	impl.SplitLines(s)
	impl.ParseInts(s)
	impl.Join([]string{s, s}, s)
	if s != string(bytes) {
		t.Errorf("the text has become %q", s)
	}
}

// inside reports whether a text lies in the memory of another one.
func inside(part string, whole string) bool {
	at := uintptr(unsafe.Pointer(unsafe.StringData(part)))
	start := uintptr(unsafe.Pointer(unsafe.StringData(whole)))
	return part != "" && start <= at && at < start+uintptr(len(whole))
}

func TestTextsAreCopies(t *testing.T) {
	s := string([]byte("first and second\nthird\nfourth"))
	for _, part := range slices.Concat(impl.Words(s), impl.SplitLines(s)) {
		if inside(part, s) {
			t.Errorf("%q shares the memory of the argument", part)
		}
	}
	for _, l := range [][]string{{s}, {"", s}, {s, ""}} {
		if inside(impl.Join(l, ""), s) {
			t.Errorf("Join of %q shares the memory of the argument", l)
		}
	}
	if inside(impl.Join([]string{"", ""}, s), s) {
		t.Error("Join of empty texts shares the memory of what separates them")
	}
}

// spoil overwrites a list and the room behind it.
func spoil[E any](l []E, x E) {
	for i := range l[:cap(l)] {
		l[:cap(l)][i] = x
	}
}

func TestResultsAreNew(t *testing.T) {
	for range 2 {
		words := impl.Words("1 b  c")
		sameList(t, "Words again", words, []string{"1", "b", "c"})
		lines := impl.SplitLines("a\n\nc\n")
		sameList(t, "SplitLines again", lines, []string{"a", "", "c"})
		ints, ok := impl.ParseInts("4 -5 6")
		sameList(t, "ParseInts again", ints, []int{4, -5, 6})
		if !ok || impl.Join([]string{"1", "b"}, " ") != "1 b" || impl.FormatInts([]int{4, -5}) != "4 -5" {
			t.Error("a call gives something else than before")
		}
		spoil(words, "spoiled")
		spoil(lines, "spoiled")
		spoil(ints, 77)
	}
}
