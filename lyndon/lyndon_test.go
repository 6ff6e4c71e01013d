package lyndon

import (
	"math"
	"slices"
	"strings"
	"testing"

	"quillward/api"
	"quillward/sample"
)

// The slow functions follow the document's words, so that the fast ones can be
// compared with them.

func rotation(s string, at int) string {
	return s[at:] + s[:at]
}

func slowIs(s string) bool {
	for at := 1; at < len(s); at++ {
		if rotation(s, at) <= s {
			return false
		}
	}
	return s != ""
}

func slowLeast(s string) (string, int) {
	least, from := s, 0
	for at := range len(s) {
		if rotation(s, at) < least {
			least, from = rotation(s, at), at
		}
	}
	return least, from
}

// slowWords returns the Lyndon words with at most n bytes and no byte greater
// than last, in order.
func slowWords(n int, last byte) []string {
	var signs []byte
	for b := range int(last) + 1 {
		signs = append(signs, byte(b))
	}
	words := slices.DeleteFunc(sample.Words(string(signs), n), func(s string) bool {
		return !slowIs(s)
	})
	slices.Sort(words)
	return words
}

// A string has only one Lyndon factorization, so what has the properties of
// one is the right one.
func isSplit(words []string, s string) bool {
	for i, w := range words {
		if !slowIs(w) || i > 0 && words[i-1] < w {
			return false
		}
	}
	return strings.Join(words, "") == s
}

func compareWithSlow(t *testing.T, s string) {
	t.Helper()
	if l, e := Split(s); e != api.OK || !isSplit(l, s) {
		t.Errorf("Split(%q) = %q, %v", s, l, e)
	}
	if is, e := Is(s); e != api.OK || is != slowIs(s) {
		t.Errorf("Is(%q) = %v, %v; want %v", s, is, e, slowIs(s))
	}
	least, from := slowLeast(s)
	if r, at, e := Least(s); e != api.OK || r != least || at != from {
		t.Errorf("Least(%q) = %q, %v, %v; want %q, %v", s, r, at, e, least, from)
	}
}

func wantNext(t *testing.T, s string, n int, last byte, want string, wantE api.Errno) {
	t.Helper()
	if r, e := Next(s, n, last); r != want || e != wantE {
		t.Errorf("Next(%q, %d, %d) = %q, %v; want %q, %v", s, n, last, r, e, want, wantE)
	}
}

func TestSplit(t *testing.T) { // P13
	tests := []struct {
		s    string
		want []string
	}{
		{"", nil},
		{"a", []string{"a"}},
		{"ab", []string{"ab"}},
		{"ba", []string{"b", "a"}},
		{"aaa", []string{"a", "a", "a"}},
		{"banana", []string{"b", "an", "an", "a"}},
		{"abaab", []string{"ab", "aab"}},
		{"ababb", []string{"ababb"}},
		{"abababa", []string{"ab", "ab", "ab", "a"}},
		{"\x80\x7f\xff", []string{"\x80", "\x7f\xff"}},
	}
	for _, c := range tests {
		if l, e := Split(c.s); e != api.OK || !slices.Equal(l, c.want) {
			t.Errorf("Split(%q) = %q, %v; want %q", c.s, l, e, c.want)
		}
	}
}

func TestIs(t *testing.T) { // P14
	tests := []struct {
		s    string
		want bool
	}{
		{"", false},
		{"a", true},
		{"\xff", true},
		{"aa", false},
		{"ab", true},
		{"ba", false},
		{"aab", true},
		{"aba", false},
		{"abab", false},
		{"ababb", true},
		{"\x7f\x80", true},
		{"\x80\x7f", false},
	}
	for _, c := range tests {
		if is, e := Is(c.s); e != api.OK || is != c.want {
			t.Errorf("Is(%q) = %v, %v; want %v", c.s, is, e, c.want)
		}
	}
}

func TestLeast(t *testing.T) { // P15
	tests := []struct {
		s, want string
		at      int
	}{
		{"", "", 0},
		{"a", "a", 0},
		{"ba", "ab", 1},
		{"baa", "aab", 1},
		{"aaaa", "aaaa", 0},
		{"abab", "abab", 0},
		{"baba", "abab", 1},
		{"banana", "abanan", 5},
		{"bcabca", "abcabc", 2},
		{"\xff\x80\x00", "\x00\xff\x80", 2},
	}
	for _, c := range tests {
		if r, at, e := Least(c.s); e != api.OK || r != c.want || at != c.at {
			t.Errorf("Least(%q) = %q, %v, %v; want %q, %v", c.s, r, at, e, c.want, c.at)
		}
	}
}

func TestNext(t *testing.T) { // P16
	tests := []struct {
		s    string
		n    int
		last byte
		want string
	}{
		{"a", 1, 'b', "b"},
		{"a", 1, 'a' + 9, "b"},
		{"a", 3, 'b', "aab"},
		{"aab", 3, 'b', "ab"},
		{"aab", 3, 'c', "aac"},
		{"aab", 4, 'b', "aabb"},
		{"aab", 5, 'b', "aabab"},
		{"ab", 3, 'b', "abb"},
		{"abb", 3, 'b', "b"},
		{"ab", 2, 'c', "ac"},
		{"ac", 2, 'c', "b"},
		{"b", 2, 'c', "bc"},
		{"\x7f", 2, 0x80, "\x7f\x80"},
		{"\x7f\x80", 2, 0x80, "\x80"},
		{"\xfe", 2, 0xff, "\xfe\xff"},
	}
	for _, c := range tests {
		wantNext(t, c.s, c.n, c.last, c.want, api.OK)
	}
}

func TestAllShortWords(t *testing.T) { // P1, P13, P14, P15
	for _, s := range sample.Words("ab", 12) {
		compareWithSlow(t, s)
	}
	for _, s := range sample.Words("\x00\x80\xff", 7) {
		compareWithSlow(t, s)
	}
	for _, s := range sample.Words("abcd", 6) {
		compareWithSlow(t, s)
	}
}

func TestLongWords(t *testing.T) { // P1, P13, P14, P15
	for n := range api.MaxWord + 1 {
		compareWithSlow(t, strings.Repeat("a", n))
		compareWithSlow(t, strings.Repeat("ab", n)[:n])
		compareWithSlow(t, strings.Repeat("bba", n)[:n])
		compareWithSlow(t, sample.Fibonacci(n))
	}
	for n := range api.MaxWord {
		before := strings.Repeat("b", n)
		after := strings.Repeat("b", api.MaxWord-1-n)
		compareWithSlow(t, before+"a"+after)
		compareWithSlow(t, before+"c"+after)
	}
	for d := 1; d <= api.MaxWord; d++ {
		block := "b" + strings.Repeat("a", d-1)
		compareWithSlow(t, strings.Repeat(block, api.MaxWord/d))
	}
}

func TestEveryByte(t *testing.T) { // P1, P13, P14, P15
	for b := range 256 {
		one := string([]byte{byte(b)})
		other := string([]byte{byte(b + 1)})
		compareWithSlow(t, one)
		compareWithSlow(t, one+other)
		compareWithSlow(t, other+one)
		compareWithSlow(t, one+one+other+one+one)
		compareWithSlow(t, strings.Repeat(one+other, 3))
	}
}

func TestNextOfAllWords(t *testing.T) { // P1, P16
	tests := []struct {
		n    int
		last byte
	}{{1, 0}, {3, 0}, {1, 255}, {2, 255}, {3, 20}, {6, 3}, {7, 2}}
	for n := 1; n <= 11; n++ {
		tests = append(tests, struct {
			n    int
			last byte
		}{n, 1})
	}
	for _, c := range tests {
		words := slowWords(c.n, c.last)
		for i, s := range words[1:] {
			wantNext(t, words[i], c.n, c.last, s, api.OK)
		}
		wantNext(t, words[len(words)-1], c.n, c.last, "", api.ErrNone)
	}
}

func TestNextOfLongWords(t *testing.T) { // P1, P16
	const n = api.MaxWord
	long := func(zeros, ones int) string {
		return strings.Repeat("\x00", zeros) + strings.Repeat("\x01", ones)
	}
	wantNext(t, long(1, 0), n, 1, long(n-1, 1), api.OK)
	for zeros := 1; zeros < n; zeros++ {
		// With zeros and ones that fill the word, the next one has fewer zeros.
		wantNext(t, long(zeros, n-zeros), n, 1, long(zeros-1, 1), api.OK)
		wantNext(t, long(zeros, n-zeros), n, 2, long(zeros, n-zeros-1)+"\x02", api.OK)
	}
	ab := strings.Repeat("ab", n/2)
	wantNext(t, "ab", n, 'b', ab[:n-2]+"b", api.OK)
	wantNext(t, "ab", n-1, 'b', ab[:n-2]+"b", api.OK)
	wantNext(t, "ab", n, 'c', ab[:n-1]+"c", api.OK)
}

func TestLargeWords(t *testing.T) { // P1, P2, P13, P14, P15
	for _, n := range []int{api.MaxWord + 1, api.MaxWord + 2, 65536, 1 << 20} {
		// In order, so that this would be a Lyndon word if it were shorter.
		s := strings.Repeat("a", n-1) + "b"
		if l, e := Split(s); e != api.ErrLarge || len(l) != 0 {
			t.Error(n, l, e)
		}
		if is, e := Is(s); e != api.ErrLarge || is {
			t.Error(n, is, e)
		}
		s = rotation(s, 1)
		if r, at, e := Least(s); e != api.ErrLarge || r != "" || at != 0 {
			t.Error(n, r, at, e)
		}
	}
}

func TestNextErrors(t *testing.T) { // P1, P2, P16
	large := strings.Repeat("a", api.MaxWord) + "b"
	tests := []struct {
		s    string
		n    int
		last byte
		want api.Errno
	}{
		{"a", 0, 'b', api.ErrArg},
		{"a", -1, 'b', api.ErrArg},
		{"a", api.MaxWord + 1, 'b', api.ErrArg},
		{"a", math.MaxInt, 'b', api.ErrArg},
		{"a", math.MinInt, 'b', api.ErrArg},
		{large, 0, 'b', api.ErrArg},
		{large, api.MaxWord + 1, 'b', api.ErrArg},
		{"", 0, 'b', api.ErrArg},
		{"", 1, 'b', api.ErrForm},
		{"", api.MaxWord, 0, api.ErrForm},
		{large, api.MaxWord, 'b', api.ErrLarge},
		{"ab", 1, 'b', api.ErrLarge},
		{"ba", 1, 'b', api.ErrLarge},
		{"ab", 1, 0, api.ErrLarge},
		{"ba", 2, 'b', api.ErrForm},
		{"aa", 2, 'b', api.ErrForm},
		{"abab", 9, 'b', api.ErrForm},
		{"ba", 2, 'a', api.ErrForm},
		{"ba", 2, 0, api.ErrForm},
		{"b", 1, 'a', api.ErrArg},
		{"ab", 2, 'a', api.ErrArg},
		{"abcb", 9, 'b', api.ErrArg},
		{"\x80", 2, 0x7f, api.ErrArg},
		{"b", 1, 'b', api.ErrNone},
		{"b", api.MaxWord, 'b', api.ErrNone},
		{"\x00", api.MaxWord, 0, api.ErrNone},
		{"\xff", api.MaxWord, 0xff, api.ErrNone},
	}
	for _, c := range tests {
		wantNext(t, c.s, c.n, c.last, "", c.want)
	}
}

func TestResultsAreNewMemory(t *testing.T) { // P2
	s := strings.Repeat("abaab", 9)
	one, _ := Split(s)
	two, _ := Split(s)
	if !sample.Apart(one, two) {
		t.Error("results share memory")
	}
	clear(one[:cap(one)])
	if !isSplit(two, s) {
		t.Errorf("%q", two)
	}
	compareWithSlow(t, s)
}

func TestNoStateBetweenCalls(t *testing.T) { // P2
	large := strings.Repeat("a", api.MaxWord+1)
	for _, s := range []string{"abab", "", "aaab", "abab", "b", "abab"} {
		compareWithSlow(t, s)
		if _, _, e := Least(large); e != api.ErrLarge {
			t.Error(e)
		}
		wantNext(t, "ab", 3, 'b', "abb", api.OK)
		compareWithSlow(t, s)
	}
}
