package suffix

import (
	"slices"
	"strings"
	"testing"

	"quillward/api"
	"quillward/sample"
)

// The slow functions follow the document's words, so that the fast ones can be
// compared with them. They use nothing of the package.

// slowOrder puts each position where the number of smaller suffixes says. No
// two suffixes are equal, since no two have the same length.
func slowOrder(s string) []int {
	places := make([]int, len(s))
	for at := range len(s) {
		smaller := 0
		for other := range len(s) {
			if s[other:] < s[at:] {
				smaller++
			}
		}
		places[smaller] = at
	}
	return places
}

func slowCommon(s string) []int {
	places := slowOrder(s)
	lengths := make([]int, len(s))
	for i := 1; i < len(s); i++ {
		previous, own := s[places[i-1]:], s[places[i]:]
		for n := range len(own) + 1 {
			if strings.HasPrefix(previous, own[:n]) {
				lengths[i] = n
			}
		}
	}
	return lengths
}

// slowCounts returns at how many positions each non-empty substring occurs.
func slowCounts(s string) map[string]int {
	counts := map[string]int{}
	for at := range len(s) {
		for end := at + 1; end <= len(s); end++ {
			counts[s[at:end]]++
		}
	}
	return counts
}

func slowTwice(counts map[string]int) string {
	best := ""
	for w, times := range counts {
		longer := len(w) > len(best)
		smaller := len(w) == len(best) && w < best
		if times >= 2 && (longer || smaller) {
			best = w
		}
	}
	return best
}

func compareWithSlow(t *testing.T, s string) {
	t.Helper()
	if l, e := Order(s); e != api.OK || !slices.Equal(l, slowOrder(s)) {
		t.Errorf("Order(%q) = %v, %v; want %v", s, l, e, slowOrder(s))
	}
	if l, e := Common(s); e != api.OK || !slices.Equal(l, slowCommon(s)) {
		t.Errorf("Common(%q) = %v, %v; want %v", s, l, e, slowCommon(s))
	}
	counts := slowCounts(s)
	if n, e := Unlike(s); e != api.OK || n != len(counts) {
		t.Errorf("Unlike(%q) = %v, %v; want %v", s, n, e, len(counts))
	}
	if r, e := Twice(s); e != api.OK || r != slowTwice(counts) {
		t.Errorf("Twice(%q) = %q, %v; want %q", s, r, e, slowTwice(counts))
	}
}

func expectLarge(t *testing.T, s string) {
	t.Helper()
	if l, e := Order(s); e != api.ErrLarge || len(l) != 0 {
		t.Errorf("Order of %d bytes = %v, %v", len(s), l, e)
	}
	if l, e := Common(s); e != api.ErrLarge || len(l) != 0 {
		t.Errorf("Common of %d bytes = %v, %v", len(s), l, e)
	}
	if n, e := Unlike(s); e != api.ErrLarge || n != 0 {
		t.Errorf("Unlike of %d bytes = %v, %v", len(s), n, e)
	}
	if r, e := Twice(s); e != api.ErrLarge || r != "" {
		t.Errorf("Twice of %d bytes = %q, %v", len(s), r, e)
	}
}

func TestOrder(t *testing.T) { // P21
	tests := []struct {
		s    string
		want []int
	}{
		{"", nil},
		{"a", []int{0}},
		{"ab", []int{0, 1}},
		{"ba", []int{1, 0}},
		{"aaaa", []int{3, 2, 1, 0}},
		{"banana", []int{5, 3, 1, 0, 4, 2}},
		{"mississippi", []int{10, 7, 4, 1, 0, 9, 8, 6, 3, 5, 2}},
		{"\x80\x7f\xff\x00", []int{3, 1, 0, 2}},
		{"a\x00a", []int{1, 2, 0}},
		{"é", []int{1, 0}},
	}
	for _, c := range tests {
		if l, e := Order(c.s); e != api.OK || !slices.Equal(l, c.want) {
			t.Errorf("Order(%q) = %v, %v; want %v", c.s, l, e, c.want)
		}
	}
}

func TestCommon(t *testing.T) { // P22
	tests := []struct {
		s    string
		want []int
	}{
		{"", nil},
		{"a", []int{0}},
		{"ab", []int{0, 0}},
		{"aaaa", []int{0, 1, 2, 3}},
		{"abab", []int{0, 2, 0, 1}},
		{"banana", []int{0, 1, 3, 0, 0, 2}},
		{"mississippi", []int{0, 1, 1, 4, 0, 0, 1, 0, 2, 1, 3}},
		{"\x00\xff\x00", []int{0, 1, 0}},
		{"éè", []int{0, 0, 0, 1}},
	}
	for _, c := range tests {
		if l, e := Common(c.s); e != api.OK || !slices.Equal(l, c.want) {
			t.Errorf("Common(%q) = %v, %v; want %v", c.s, l, e, c.want)
		}
	}
}

func TestUnlike(t *testing.T) { // P23
	tests := []struct {
		s    string
		want int
	}{
		{"", 0},
		{"a", 1},
		{"aa", 2},
		{"ab", 3},
		{"abc", 6},
		{"aba", 5},
		{"abab", 7},
		{"banana", 15},
		{"mississippi", 53},
		{strings.Repeat("a", api.MaxWord), 200},
		{sample.Ramp(0, 1, api.MaxWord), 20100},
	}
	for _, c := range tests {
		if n, e := Unlike(c.s); e != api.OK || n != c.want {
			t.Errorf("Unlike(%q) = %v, %v; want %v", c.s, n, e, c.want)
		}
	}
}

func TestTwice(t *testing.T) { // P24
	tests := []struct {
		s, want string
	}{
		{"", ""},
		{"a", ""},
		{"abc", ""},
		{"aa", "a"},
		{"aaaa", "aaa"},
		{"aba", "a"},
		{"abba", "a"},
		{"baab", "a"},
		{"ababa", "aba"},
		{"banana", "ana"},
		{"mississippi", "issi"},
		// The smallest of several is not the first, or not the most frequent.
		{"cdcdabab", "ab"},
		{"ddccbbaa", "a"},
		{"b-b.b,a_a", "a"},
		// A longer one comes before a smaller one.
		{"cccbaa", "cc"},
		{"\xff\xff\x7f\x7f\x80\x80", "\x7f"},
		{"éè", "\xc3"},
	}
	for _, c := range tests {
		if r, e := Twice(c.s); e != api.OK || r != c.want {
			t.Errorf("Twice(%q) = %q, %v; want %q", c.s, r, e, c.want)
		}
	}
}

func TestAllShortWords(t *testing.T) { // P1, P21, P22, P23, P24
	for _, s := range sample.Words("ab", 10) {
		compareWithSlow(t, s)
	}
	for _, s := range sample.Words("\x00\x80\xff", 6) {
		compareWithSlow(t, s)
	}
	for _, s := range sample.Words("abcd", 5) {
		compareWithSlow(t, s)
	}
}

func TestLongWords(t *testing.T) { // P1, P21, P22, P23, P24
	for n := 0; n <= api.MaxWord; n += 25 {
		compareWithSlow(t, strings.Repeat("a", n))
		compareWithSlow(t, strings.Repeat("ab", n)[:n])
		compareWithSlow(t, strings.Repeat("bba", n)[:n])
		compareWithSlow(t, sample.Fibonacci(n))
		compareWithSlow(t, sample.Ramp(n, 1, n))
		compareWithSlow(t, sample.Ramp(n, -1, n))
		compareWithSlow(t, sample.Ramp(n, 64, n)+sample.Ramp(n, 3, api.MaxWord-n))
	}
	for n := 0; n < api.MaxWord; n += 33 {
		before := strings.Repeat("b", n)
		after := strings.Repeat("b", api.MaxWord-1-n)
		compareWithSlow(t, before+"a"+after)
		compareWithSlow(t, before+"c"+after)
	}
}

func TestEveryByte(t *testing.T) { // P1, P21, P22, P23, P24
	for b := range 256 {
		one := string([]byte{byte(b)})
		other := string([]byte{byte(b + 1)})
		compareWithSlow(t, one)
		compareWithSlow(t, one+other)
		compareWithSlow(t, other+one)
		compareWithSlow(t, one+one+other+other)
		compareWithSlow(t, strings.Repeat(one+other, 3))
	}
}

func TestTooLarge(t *testing.T) { // P1, P2, P21, P22, P23, P24
	for _, n := range []int{api.MaxWord + 1, api.MaxWord + 2, 256, 65536, 1 << 20} {
		expectLarge(t, strings.Repeat("ab", n)[:n])
	}
	expectLarge(t, strings.Repeat("é", api.MaxWord/2+1))
}

func TestResultsAreNewMemory(t *testing.T) { // P2
	s := strings.Repeat("abaab", 9)
	var results [][]int
	for range 2 {
		places, _ := Order(s)
		lengths, _ := Common(s)
		results = append(results, places, lengths)
	}
	wants := [][]int{slowOrder(s), slowCommon(s)}
	for i, l := range results {
		if !slices.Equal(l, wants[i%2]) {
			t.Errorf("result %d is %v after later calls; want %v", i, l, wants[i%2])
		}
	}
	if !sample.Apart(results...) {
		t.Error("results share memory")
	}
	for _, l := range results {
		clear(l[:cap(l)])
	}
	compareWithSlow(t, s)
}

func TestNoStateBetweenCalls(t *testing.T) { // P2
	for _, s := range []string{"abab", "", "aaaa", "abab", "b", "abab"} {
		compareWithSlow(t, s)
		expectLarge(t, strings.Repeat("a", api.MaxWord+1))
		compareWithSlow(t, s)
	}
}
