package word

import (
	"slices"
	"strings"
	"testing"

	"quillward/api"
	"quillward/sample"
)

// The slow functions follow the document's words, so that the fast ones can be
// compared with them.

func slowBorders(s string) []int {
	var lengths []int
	for n := 1; n <= len(s); n++ {
		k := n - 1
		for s[:k] != s[n-k:n] {
			k--
		}
		lengths = append(lengths, k)
	}
	return lengths
}

func isPeriod(s string, d int) bool {
	for i := 0; i+d < len(s); i++ {
		if s[i] != s[i+d] {
			return false
		}
	}
	return true
}

func slowPeriods(s string) []int {
	var found []int
	for d := 1; d <= len(s); d++ {
		if isPeriod(s, d) {
			found = append(found, d)
		}
	}
	return found
}

func slowRoot(s string) (string, int) {
	for d := 1; d <= len(s); d++ {
		if len(s)%d == 0 && strings.Repeat(s[:d], len(s)/d) == s {
			return s[:d], len(s) / d
		}
	}
	return "", 0
}

func compareWithSlow(t *testing.T, s string) {
	t.Helper()
	if e := Check(s); e != api.OK {
		t.Errorf("Check(%q) = %v", s, e)
	}
	if l, e := Borders(s); e != api.OK || !slices.Equal(l, slowBorders(s)) {
		t.Errorf("Borders(%q) = %v, %v; want %v", s, l, e, slowBorders(s))
	}
	if l, e := Periods(s); e != api.OK || !slices.Equal(l, slowPeriods(s)) {
		t.Errorf("Periods(%q) = %v, %v; want %v", s, l, e, slowPeriods(s))
	}
	root, times := slowRoot(s)
	if r, n, e := Root(s); e != api.OK || r != root || n != times {
		t.Errorf("Root(%q) = %q, %v, %v; want %q, %v", s, r, n, e, root, times)
	}
}

func TestCheckLengths(t *testing.T) { // P3
	for n := range api.MaxWord + 1 {
		if e := Check(strings.Repeat("a", n)); e != api.OK {
			t.Errorf("%d bytes: %v", n, e)
		}
	}
	for _, n := range []int{api.MaxWord + 1, api.MaxWord + 2, 256, 400, 65536, 1 << 20} {
		if e := Check(strings.Repeat("a", n)); e != api.ErrLarge {
			t.Errorf("%d bytes: %v", n, e)
		}
	}
}

func TestCheckCountsBytes(t *testing.T) { // P3
	if e := Check(strings.Repeat("é", api.MaxWord/2)); e != api.OK {
		t.Error(e)
	}
	if e := Check(strings.Repeat("é", api.MaxWord/2+1)); e != api.ErrLarge {
		t.Error(e)
	}
}

func TestBorders(t *testing.T) { // P4
	tests := []struct {
		s    string
		want []int
	}{
		{"", nil},
		{"a", []int{0}},
		{"abab", []int{0, 0, 1, 2}},
		{"aaaa", []int{0, 1, 2, 3}},
		{"abcd", []int{0, 0, 0, 0}},
		{"abaaba", []int{0, 0, 1, 1, 2, 3}},
		{"aabaaab", []int{0, 1, 0, 1, 2, 2, 3}},
		{"\x00\xff\x00", []int{0, 0, 1}},
		{"é\xc3", []int{0, 0, 1}},
	}
	for _, c := range tests {
		if l, e := Borders(c.s); e != api.OK || !slices.Equal(l, c.want) {
			t.Errorf("Borders(%q) = %v, %v; want %v", c.s, l, e, c.want)
		}
	}
}

func TestPeriods(t *testing.T) { // P5
	tests := []struct {
		s    string
		want []int
	}{
		{"", nil},
		{"a", []int{1}},
		{"abab", []int{2, 4}},
		{"aaaa", []int{1, 2, 3, 4}},
		{"abcd", []int{4}},
		{"abaaba", []int{3, 5, 6}},
		{"ababa", []int{2, 4, 5}},
		{"\x00\xff\x00", []int{2, 3}},
	}
	for _, c := range tests {
		if l, e := Periods(c.s); e != api.OK || !slices.Equal(l, c.want) {
			t.Errorf("Periods(%q) = %v, %v; want %v", c.s, l, e, c.want)
		}
	}
}

func TestRoot(t *testing.T) { // P6
	tests := []struct {
		s, root string
		times   int
	}{
		{"", "", 0},
		{"a", "a", 1},
		{"abab", "ab", 2},
		{"ababab", "ab", 3},
		{"aaaa", "a", 4},
		{"abcd", "abcd", 1},
		{"ababa", "ababa", 1},
		{"aabaabaa", "aabaabaa", 1},
		{"\xff\x00\xff\x00", "\xff\x00", 2},
	}
	for _, c := range tests {
		if r, n, e := Root(c.s); e != api.OK || r != c.root || n != c.times {
			t.Errorf("Root(%q) = %q, %v, %v; want %q, %v", c.s, r, n, e, c.root, c.times)
		}
	}
}

func TestAllShortWords(t *testing.T) { // P1, P4, P5, P6
	for _, s := range sample.Words("ab", 12) {
		compareWithSlow(t, s)
	}
	for _, s := range sample.Words("\x00\x80\xff", 7) {
		compareWithSlow(t, s)
	}
}

func TestLongWords(t *testing.T) { // P1, P4, P5, P6
	for n := range api.MaxWord + 1 {
		compareWithSlow(t, strings.Repeat("a", n))
		compareWithSlow(t, strings.Repeat("ab", n)[:n])
		compareWithSlow(t, strings.Repeat("aab", n)[:n])
		compareWithSlow(t, sample.Fibonacci(n))
	}
	for n := range api.MaxWord {
		before := strings.Repeat("a", n)
		after := strings.Repeat("a", api.MaxWord-1-n)
		compareWithSlow(t, before+"b"+after)
	}
	for d := 1; d <= api.MaxWord; d++ {
		block := strings.Repeat("a", d-1) + "b"
		compareWithSlow(t, strings.Repeat(block, api.MaxWord/d))
	}
}

func TestEveryByte(t *testing.T) { // P1, P4, P5, P6
	for b := range 256 {
		one := string([]byte{byte(b)})
		other := string([]byte{byte(b + 1)})
		compareWithSlow(t, one)
		compareWithSlow(t, one+one+other+one+one)
		compareWithSlow(t, strings.Repeat(one+other, 3))
	}
}

func TestTooLarge(t *testing.T) { // P1, P2, P4, P5, P6
	for _, n := range []int{api.MaxWord + 1, api.MaxWord + 2, 65536, 1 << 20} {
		s := strings.Repeat("ab", n)[:n]
		if l, e := Borders(s); e != api.ErrLarge || len(l) != 0 {
			t.Error(n, l, e)
		}
		if l, e := Periods(s); e != api.ErrLarge || len(l) != 0 {
			t.Error(n, l, e)
		}
		if r, k, e := Root(s); e != api.ErrLarge || r != "" || k != 0 {
			t.Error(n, r, k, e)
		}
	}
}

func TestResultsAreNewMemory(t *testing.T) { // P2
	s := strings.Repeat("abaab", 9)
	var results [][]int
	for range 2 {
		borders, _ := Borders(s)
		periods, _ := Periods(s)
		results = append(results, borders, periods)
	}
	wants := [][]int{slowBorders(s), slowPeriods(s)}
	for i, l := range results {
		if !slices.Equal(l, wants[i%2]) {
			t.Errorf("result %d is %v after later calls; want %v", i, l, wants[i%2])
		}
	}
	if !sample.Apart(results...) {
		t.Error("results share memory")
	}
	for _, l := range results {
		clear(l[:cap(l)])
	}
	compareWithSlow(t, s)
}

func TestNoStateBetweenCalls(t *testing.T) { // P2
	large := strings.Repeat("a", api.MaxWord+1)
	for _, s := range []string{"abab", "", "aaaa", "abab", "b", "abab"} {
		compareWithSlow(t, s)
		if _, _, e := Root(large); e != api.ErrLarge {
			t.Error(e)
		}
		compareWithSlow(t, s)
	}
}
