package seek

import (
	"slices"
	"strings"
	"testing"

	"quillward/api"
	"quillward/sample"
)

// The slow functions follow the document's words, so that the fast ones can be
// compared with them.

func slowFind(s, p string) []int {
	var found []int
	for i := 0; i+len(p) <= len(s); i++ {
		if s[i:i+len(p)] == p {
			found = append(found, i)
		}
	}
	return found
}

func slowFronts(s string) []int {
	var lengths []int
	for i := range len(s) {
		k := len(s) - i
		for s[:k] != s[i:i+k] {
			k--
		}
		lengths = append(lengths, k)
	}
	return lengths
}

func slowPut(s, p, by string) (string, int) {
	text, times := "", 0
	for s != "" {
		if strings.HasPrefix(s, p) {
			text += by
			s = s[len(p):]
			times++
		} else {
			text += s[:1]
			s = s[1:]
		}
	}
	return text, times
}

func compareFind(t *testing.T, s, p string) {
	t.Helper()
	if l, e := Find(s, p); e != api.OK || !slices.Equal(l, slowFind(s, p)) {
		t.Errorf("Find(%q, %q) = %v, %v; want %v", s, p, l, e, slowFind(s, p))
	}
}

func compareFronts(t *testing.T, s string) {
	t.Helper()
	if l, e := Fronts(s); e != api.OK || !slices.Equal(l, slowFronts(s)) {
		t.Errorf("Fronts(%q) = %v, %v; want %v", s, l, e, slowFronts(s))
	}
}

func comparePut(t *testing.T, s, p, by string) {
	t.Helper()
	text, times := slowPut(s, p, by)
	if r, n, e := Put(s, p, by); e != api.OK || r != text || n != times {
		t.Errorf("Put(%q, %q, %q) = %q, %v, %v; want %q, %v", s, p, by, r, n, e, text, times)
	}
}

func TestFind(t *testing.T) { // P7
	tests := []struct {
		s, p string
		want []int
	}{
		{"aaa", "aa", []int{0, 1}},
		{"", "a", nil},
		{"a", "a", []int{0}},
		{"a", "b", nil},
		{"a", "aa", nil},
		{"abcabc", "abc", []int{0, 3}},
		{"abababa", "aba", []int{0, 2, 4}},
		{"aabaaab", "aab", []int{0, 4}},
		{"ab\x00\xff\x00", "\x00", []int{2, 4}},
		{"éé", "\xa9\xc3", []int{1}},
	}
	for _, c := range tests {
		if l, e := Find(c.s, c.p); e != api.OK || !slices.Equal(l, c.want) {
			t.Errorf("Find(%q, %q) = %v, %v; want %v", c.s, c.p, l, e, c.want)
		}
	}
}

func TestFronts(t *testing.T) { // P8
	tests := []struct {
		s    string
		want []int
	}{
		{"", nil},
		{"a", []int{1}},
		{"aaaa", []int{4, 3, 2, 1}},
		{"abcd", []int{4, 0, 0, 0}},
		{"abacaba", []int{7, 0, 1, 0, 3, 0, 1}},
		{"aabaab", []int{6, 1, 0, 3, 1, 0}},
		{"\x00\xff\x00", []int{3, 0, 1}},
	}
	for _, c := range tests {
		if l, e := Fronts(c.s); e != api.OK || !slices.Equal(l, c.want) {
			t.Errorf("Fronts(%q) = %v, %v; want %v", c.s, l, e, c.want)
		}
	}
}

func TestPut(t *testing.T) { // P9
	tests := []struct {
		s, p, by, want string
		times          int
	}{
		{"aaa", "aa", "b", "ba", 1},
		{"aaaa", "aa", "b", "bb", 2},
		{"", "a", "b", "", 0},
		{"abc", "x", "y", "abc", 0},
		{"abc", "abcd", "y", "abc", 0},
		{"abcabc", "b", "", "acac", 2},
		{"aaa", "a", "", "", 3},
		{"aaa", "a", "aa", "aaaaaa", 3},
		{"aab", "ab", "b", "ab", 1},
		{"abababa", "aba", "x", "xbx", 2},
		{"x\x00y", "\x00", "\xff", "x\xffy", 1},
	}
	for _, c := range tests {
		if r, n, e := Put(c.s, c.p, c.by); e != api.OK || r != c.want || n != c.times {
			t.Errorf("Put(%q, %q, %q) = %q, %v, %v; want %q, %v", c.s, c.p, c.by, r, n, e, c.want, c.times)
		}
	}
}

func TestAllShortWords(t *testing.T) { // P1, P7, P8, P9
	patterns := sample.Words("ab", 5)[1:]
	for _, s := range sample.Words("ab", 9) {
		compareFronts(t, s)
		for _, p := range patterns {
			compareFind(t, s, p)
			comparePut(t, s, p, "ba")
			comparePut(t, s, p, "")
		}
	}
	patterns = sample.Words("\x00\x80\xff", 3)[1:]
	for _, s := range sample.Words("\x00\x80\xff", 6) {
		compareFronts(t, s)
		for _, p := range patterns {
			compareFind(t, s, p)
			comparePut(t, s, p, p+p)
		}
	}
}

func TestLongWords(t *testing.T) { // P1, P7, P8, P9
	const n = api.MaxWord
	texts := []string{
		strings.Repeat("a", n),
		strings.Repeat("ab", n/2),
		strings.Repeat("aab", n)[:n],
		sample.Fibonacci(n),
		strings.Repeat("a", n-1) + "b",
		strings.Repeat("a", n/2) + "b" + strings.Repeat("a", n/2-1),
	}
	for _, s := range texts {
		for k := 1; k <= n; k++ {
			compareFronts(t, s[:k])
			for _, p := range []string{s[:k], s[n-k:], strings.Repeat("a", k), s[:k-1] + "c"} {
				compareFind(t, s, p)
				comparePut(t, s, p, s[:k/3])
			}
		}
	}
}

// A result may be longer than a word may be: only the arguments are limited.
func TestLongReplacement(t *testing.T) { // P9
	s := strings.Repeat("a", api.MaxWord)
	r, n, e := Put(s, "a", s)
	if e != api.OK || n != api.MaxWord || r != strings.Repeat(s, api.MaxWord) {
		t.Error(len(r), n, e)
	}
}

func TestEveryByte(t *testing.T) { // P1, P7, P8, P9
	for b := range 256 {
		one := string([]byte{byte(b)})
		other := string([]byte{byte(b + 1)})
		s := one + one + other + one + one
		compareFind(t, s, one+one)
		compareFronts(t, s)
		comparePut(t, s, one, other)
	}
}

func TestErrors(t *testing.T) { // P1, P2, P7, P9
	large := strings.Repeat("a", api.MaxWord+1)
	tests := []struct {
		s, p string
		want api.Errno
	}{
		{"", "", api.ErrEmpty},
		{"a", "", api.ErrEmpty},
		{"a", large, api.ErrLarge},
		{large, "a", api.ErrLarge},
		{large, large, api.ErrLarge},
		{large, "", api.ErrLarge},
		{strings.Repeat("b", 1<<20), "b", api.ErrLarge},
	}
	for _, c := range tests {
		if l, e := Find(c.s, c.p); e != c.want || len(l) != 0 {
			t.Errorf("Find of %d and %d bytes: %v, %v; want %v", len(c.s), len(c.p), l, e, c.want)
		}
		for _, by := range []string{"", "b", large} {
			if r, n, e := Put(c.s, c.p, by); e != c.want || r != "" || n != 0 {
				t.Errorf("Put of %d, %d and %d bytes: %q, %v, %v; want %v",
					len(c.s), len(c.p), len(by), r, n, e, c.want)
			}
		}
	}
	// The replacement is checked even where it is not used.
	for _, p := range []string{"a", "b"} {
		if r, n, e := Put("a", p, large); e != api.ErrLarge || r != "" || n != 0 {
			t.Error(r, n, e)
		}
	}
}

func TestLargeFronts(t *testing.T) { // P1, P2, P8
	for _, n := range []int{api.MaxWord + 1, 65536, 1 << 20} {
		if l, e := Fronts(strings.Repeat("a", n)); e != api.ErrLarge || len(l) != 0 {
			t.Error(n, l, e)
		}
	}
}

func TestResultsAreNewMemory(t *testing.T) { // P2
	s := strings.Repeat("abaab", 9)
	var results [][]int
	for range 2 {
		found, _ := Find(s, "aba")
		fronts, _ := Fronts(s)
		results = append(results, found, fronts)
	}
	if !sample.Apart(results...) {
		t.Error("results share memory")
	}
	for _, l := range results {
		clear(l[:cap(l)])
	}
	compareFind(t, s, "aba")
	compareFronts(t, s)
	comparePut(t, s, "aba", "b")
}
