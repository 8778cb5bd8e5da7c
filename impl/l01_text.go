package impl

import (
	"strconv"
	"strings"
)

func FormatInt(n int) string {
	return strconv.Itoa(n)
}

func ParseInt(s string) (int, bool) {
	n, err := strconv.Atoi(s)
	// Atoi also takes a plus sign, leading zeros and -0, which FormatInt never writes.
	if err != nil || FormatInt(n) != s {
		return 0, false
	}
	return n, true
}

// pieces returns the parts of s before, between and behind the occurrences of
// an ASCII separator, so always one part more than there are separators.
// Ranging by runes finds every separator, also where s is not UTF-8: an ASCII
// byte is never a part of another rune, nor of a broken one.
func pieces(s string, separator rune) []string {
	var parts []string
	start := 0
	for i, r := range s {
		if r == separator {
			// Cloned, because a result shares no memory with an argument.
			parts = append(parts, strings.Clone(s[start:i]))
			start = i + 1
		}
	}
	return append(parts, strings.Clone(s[start:]))
}

func Words(s string) []string {
	var words []string
	for _, part := range pieces(s, ' ') {
		if part != "" {
			words = append(words, part)
		}
	}
	return words
}

func SplitLines(s string) []string {
	lines := pieces(s, '\n')
	last := len(lines) - 1
	// What is behind the last newline is a line only if there is something.
	if lines[last] == "" {
		return lines[:last]
	}
	return lines
}

// appendTexts lets a caller name the few texts that it adds at once.
func appendTexts(text []byte, texts ...string) []byte {
	for _, s := range texts {
		text = append(text, s...)
	}
	return text
}

// Join does not call strings.Join, which returns the element of a list of one
// itself: a result shares no memory with an argument.
func Join(l []string, by string) string {
	if len(l) == 0 {
		return ""
	}
	text := appendTexts(nil, l[0])
	for _, s := range l[1:] {
		text = appendTexts(text, by, s)
	}
	return string(text)
}

func FormatInts(l []int) string {
	return joinInts(l, " ")
}

func joinInts(l []int, by string) string {
	texts := make([]string, len(l))
	for i, n := range l {
		texts[i] = FormatInt(n)
	}
	return Join(texts, by)
}

func ParseInts(s string) ([]int, bool) {
	// The empty text has one empty part, but it is the text of the empty list.
	if s == "" {
		return nil, true
	}
	return splitInts(s, ' ')
}

// splitInts returns the integers of which joinInts makes s; as the separator is
// in no integer, there is no other list. It fails for the empty text.
func splitInts(s string, separator rune) ([]int, bool) {
	var l []int
	for _, part := range pieces(s, separator) {
		n, ok := ParseInt(part)
		if !ok {
			return nil, false
		}
		l = append(l, n)
	}
	return l, true
}
