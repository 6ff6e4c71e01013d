package mirror

import (
	"slices"
	"strings"
	"testing"

	"quillward/api"
	"quillward/sample"
)

// The slow functions follow the document's words, so that the fast ones can be
// compared with them. They use nothing of the package.

func reversed(s string) string {
	text := []byte(s)
	slices.Reverse(text)
	return string(text)
}

func isPalindrome(s string) bool {
	return s == reversed(s)
}

// slowArm returns the length of the longest palindrome that ends as far behind
// after as it begins ahead of before.
func slowArm(s string, before, after int) int {
	longest := 0
	for k := 0; k <= before && after+k <= len(s); k++ {
		if w := s[before-k : after+k]; isPalindrome(w) {
			longest = max(longest, len(w))
		}
	}
	return longest
}

func slowArms(s string) []int {
	var lengths []int
	for i := range len(s) {
		lengths = append(lengths, slowArm(s, i, i), slowArm(s, i, i+1))
	}
	return append(lengths, slowArm(s, len(s), len(s)))
}

func slowLongest(s string) string {
	for n := len(s); n > 0; n-- {
		for at := 0; at+n <= len(s); at++ {
			if isPalindrome(s[at : at+n]) {
				return s[at : at+n]
			}
		}
	}
	return ""
}

func slowUnlike(s string) int {
	var found []string
	for at := range len(s) {
		for end := at + 1; end <= len(s); end++ {
			if isPalindrome(s[at:end]) {
				found = append(found, s[at:end])
			}
		}
	}
	slices.Sort(found)
	return len(slices.Compact(found))
}

func wantArms(t *testing.T, s string, want []int) {
	t.Helper()
	if l, e := Arms(s); e != api.OK || !slices.Equal(l, want) {
		t.Errorf("Arms(%q) = %v, %v; want %v", s, l, e, want)
	}
}

func wantLongest(t *testing.T, s, want string) {
	t.Helper()
	if r, e := Longest(s); e != api.OK || r != want {
		t.Errorf("Longest(%q) = %q, %v; want %q", s, r, e, want)
	}
}

func wantUnlike(t *testing.T, s string, want int) {
	t.Helper()
	if n, e := Unlike(s); e != api.OK || n != want {
		t.Errorf("Unlike(%q) = %v, %v; want %v", s, n, e, want)
	}
}

func compareWithSlow(t *testing.T, s string) {
	t.Helper()
	wantArms(t, s, slowArms(s))
	wantLongest(t, s, slowLongest(s))
	wantUnlike(t, s, slowUnlike(s))
}

func expectLarge(t *testing.T, s string) {
	t.Helper()
	if l, e := Arms(s); e != api.ErrLarge || len(l) != 0 {
		t.Errorf("Arms of %d bytes = %v, %v", len(s), l, e)
	}
	if r, e := Longest(s); e != api.ErrLarge || r != "" {
		t.Errorf("Longest of %d bytes = %q, %v", len(s), r, e)
	}
	if n, e := Unlike(s); e != api.ErrLarge || n != 0 {
		t.Errorf("Unlike of %d bytes = %v, %v", len(s), n, e)
	}
}

func TestArms(t *testing.T) { // P28
	tests := []struct {
		s    string
		want []int
	}{
		// The empty string has one gap.
		{"", []int{0}},
		{"a", []int{0, 1, 0}},
		{"ab", []int{0, 1, 0, 1, 0}},
		{"aa", []int{0, 1, 2, 1, 0}},
		{"aba", []int{0, 1, 0, 3, 0, 1, 0}},
		{"abaab", []int{0, 1, 0, 3, 0, 1, 4, 1, 0, 1, 0}},
		{"aaaa", []int{0, 1, 2, 3, 4, 3, 2, 1, 0}},
		{"abba", []int{0, 1, 0, 1, 4, 1, 0, 1, 0}},
		// Equal bytes around unequal ones make no palindrome.
		{"abca", []int{0, 1, 0, 1, 0, 1, 0, 1, 0}},
		{"xabcbay", []int{0, 1, 0, 1, 0, 1, 0, 5, 0, 1, 0, 1, 0, 1, 0}},
		{"\x00\xff\x00", []int{0, 1, 0, 3, 0, 1, 0}},
		{"\x7f\xff", []int{0, 1, 0, 1, 0}},
		// Bytes count, not signs.
		{"éé", []int{0, 1, 0, 3, 0, 3, 0, 1, 0}},
	}
	for _, c := range tests {
		wantArms(t, c.s, c.want)
	}
}

func TestLongest(t *testing.T) { // P29
	tests := []struct {
		s, want string
	}{
		{"", ""},
		{"a", "a"},
		{"abaab", "baab"},
		{"abaa", "aba"},
		{"aaaa", "aaaa"},
		{"banana", "anana"},
		{"mississippi", "ississi"},
		// The first one of several, not the smallest or the greatest.
		{"ab", "a"},
		{"ba", "b"},
		{"abc", "a"},
		{"bbcaa", "bb"},
		{"aacbb", "aa"},
		{"cbcdada", "cbc"},
		{"abacdc", "aba"},
		// A longer one before or after shorter ones.
		{"abbacdc", "abba"},
		{"cdcabba", "abba"},
		{"aacdcbb", "cdc"},
		// One that overlaps another as long as it is.
		{"abab", "aba"},
		{"aabbaabb", "aabbaa"},
		{"\xff\x00\x00\xff\x7f", "\xff\x00\x00\xff"},
		{"éé", "\xc3\xa9\xc3"},
	}
	for _, c := range tests {
		wantLongest(t, c.s, c.want)
	}
}

func TestUnlike(t *testing.T) { // P30
	tests := []struct {
		s    string
		want int
	}{
		{"", 0},
		{"a", 1},
		{"aa", 2},
		{"ab", 2},
		{"aba", 3},
		{"abaab", 5},
		{"aaaa", 4},
		{"abca", 3},
		{"abcabc", 3},
		{"abab", 4},
		{"banana", 6},
		{"mississippi", 11},
		{"\x00\xff\x00", 3},
		{"éé", 4},
		{strings.Repeat("a", api.MaxWord), api.MaxWord},
		{strings.Repeat("abc", api.MaxWord)[:api.MaxWord], 3},
		{sample.Ramp(0, 1, api.MaxWord), api.MaxWord},
		{sample.Fibonacci(api.MaxWord), api.MaxWord},
	}
	for _, c := range tests {
		wantUnlike(t, c.s, c.want)
	}
}

func TestAllShortWords(t *testing.T) { // P1, P28, P29, P30
	for _, s := range slices.Concat(
		sample.Words("ab", 10),
		sample.Words("\x00\x80\xff", 7),
		sample.Words("abcd", 6),
	) {
		compareWithSlow(t, s)
	}
}

func TestLongWords(t *testing.T) { // P1, P28, P29, P30
	for n := 0; n <= api.MaxWord; n += 25 {
		compareWithSlow(t, strings.Repeat("a", n))
		compareWithSlow(t, strings.Repeat("ab", n)[:n])
		compareWithSlow(t, strings.Repeat("aab", n)[:n])
		compareWithSlow(t, strings.Repeat("abc", n)[:n])
		compareWithSlow(t, sample.Fibonacci(n))
		compareWithSlow(t, sample.Ramp(n, 1, n))
		compareWithSlow(t, sample.Ramp(n, 64, n)+sample.Ramp(n, 3, api.MaxWord-n))
	}
}

func TestLongPalindromes(t *testing.T) { // P1, P28, P29, P30
	for _, n := range []int{1, 2, 33, 66, 99} {
		half := sample.Ramp(250, 1, n)
		even, odd := half+reversed(half), half+"a"+reversed(half)
		before := strings.Repeat("b", api.MaxWord-len(odd))
		for _, s := range []string{
			even, odd, before + even, before + odd, even + before, odd + before,
			// Only the outermost bytes, or those at the center, are unequal.
			"c" + even + "d", half + "cd" + reversed(half),
		} {
			compareWithSlow(t, s)
		}
	}
}

func TestOneByteApart(t *testing.T) { // P1, P28, P29, P30
	for n := 0; n < api.MaxWord; n += 33 {
		before := strings.Repeat("b", n)
		after := strings.Repeat("b", api.MaxWord-1-n)
		compareWithSlow(t, before+"a"+after)
		compareWithSlow(t, before+"c"+after)
	}
}

func TestEveryByte(t *testing.T) { // P1, P28, P29, P30
	for b := range 256 {
		one, other := sample.Ramp(b, 1, 1), sample.Ramp(b+1, 1, 1)
		compareWithSlow(t, one)
		compareWithSlow(t, one+other)
		compareWithSlow(t, one+other+one)
		compareWithSlow(t, other+one+one+other)
		// Bytes that differ in one bit only are not the same.
		for bit := range 8 {
			compareWithSlow(t, one+other+sample.Ramp(b^1<<bit, 1, 1))
		}
	}
}

func TestTooLarge(t *testing.T) { // P1, P2, P28, P29, P30
	for _, n := range []int{api.MaxWord + 1, api.MaxWord + 2, 256, 65536, 1 << 20} {
		expectLarge(t, strings.Repeat("a", n))
		expectLarge(t, strings.Repeat("ab", n)[:n])
	}
	expectLarge(t, strings.Repeat("é", api.MaxWord/2+1))
}

func TestResultsAreNewMemory(t *testing.T) { // P2
	words := []string{strings.Repeat("abaab", 9), "", "a", strings.Repeat("abaab", 9)}
	var results [][]int
	for _, s := range words {
		lengths, _ := Arms(s)
		results = append(results, lengths)
	}
	for i, l := range results {
		if want := slowArms(words[i]); !slices.Equal(l, want) {
			t.Errorf("result %d is %v after later calls; want %v", i, l, want)
		}
	}
	if !sample.Apart(results...) {
		t.Error("results share memory")
	}
	for _, l := range results {
		clear(l[:cap(l)])
	}
	for _, s := range words {
		compareWithSlow(t, s)
	}
}

func TestNoStateBetweenCalls(t *testing.T) { // P2
	for _, s := range []string{"abab", "", "aaaa", "abab", "b", "abab"} {
		compareWithSlow(t, s)
		expectLarge(t, strings.Repeat("a", api.MaxWord+1))
		compareWithSlow(t, s)
	}
}
