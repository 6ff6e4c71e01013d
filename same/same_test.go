package same

import (
	"slices"
	"strings"
	"testing"

	"quillward/api"
	"quillward/sample"
)

// The slow functions follow the document's words, so that the fast ones can be
// compared with them. They use nothing of the package.

// subsequences returns everything that results from s by deleting any number of
// bytes.
func subsequences(s string) map[string]bool {
	found := map[string]bool{"": true}
	if s == "" {
		return found
	}
	for rest := range subsequences(s[1:]) {
		found[rest] = true
		found[s[:1]+rest] = true
	}
	return found
}

// slowLong expects the subsequences of two words.
func slowLong(a, b map[string]bool) int {
	longest := 0
	for s := range a {
		if b[s] {
			longest = max(longest, len(s))
		}
	}
	return longest
}

// leastEnds returns for each length of a common subsequence of a and b the end
// in b of the one that ends first. It is for words that have too many
// subsequences to list them.
func leastEnds(a, b string) []int {
	ends := []int{0}
	for i := range len(a) {
		for k := len(ends) - 1; k >= 0; k-- {
			at := strings.IndexByte(b[ends[k]:], a[i])
			if at < 0 {
				continue
			}
			if end := ends[k] + at + 1; k == len(ends)-1 {
				ends = append(ends, end)
			} else {
				ends[k+1] = min(ends[k+1], end)
			}
		}
	}
	return ends
}

func wantLong(t *testing.T, a, b string, want int) {
	t.Helper()
	if n, e := Long(a, b); e != api.OK || n != want {
		t.Errorf("Long(%q, %q) = %v, %v; want %v", a, b, n, e, want)
	}
}

func wantWithin(t *testing.T, a, b string, want bool) {
	t.Helper()
	if is, e := Within(a, b); e != api.OK || is != want {
		t.Errorf("Within(%q, %q) = %v, %v; want %v", a, b, is, e, want)
	}
}

// wantPlaces is for words that have only one longest common subsequence.
func wantPlaces(t *testing.T, a, b string, inA, inB []int) {
	t.Helper()
	if x, y, e := Places(a, b); e != api.OK || !slices.Equal(x, inA) || !slices.Equal(y, inB) {
		t.Errorf("Places(%q, %q) = %v, %v, %v; want %v, %v", a, b, x, y, e, inA, inB)
	}
}

// wantSomePlaces accepts every common subsequence of the right length.
func wantSomePlaces(t *testing.T, a, b string, want int) {
	t.Helper()
	x, y, e := Places(a, b)
	if e != api.OK || len(x) != want || len(y) != want || !goUp(x, len(a)) || !goUp(y, len(b)) {
		t.Errorf("Places(%q, %q) = %v, %v, %v; want %v places", a, b, x, y, e, want)
		return
	}
	for k := range x {
		if a[x[k]] != b[y[k]] {
			t.Errorf("Places(%q, %q) = %v, %v: not the same at %v and %v", a, b, x, y, x[k], y[k])
		}
	}
}

// goUp says whether the places are indices of n bytes in increasing order.
func goUp(places []int, n int) bool {
	last := -1
	for _, at := range places {
		if at <= last || at >= n {
			return false
		}
		last = at
	}
	return true
}

// compare checks all functions for a and b, which may be long.
func compare(t *testing.T, a, b string) {
	t.Helper()
	want := len(leastEnds(a, b)) - 1
	wantLong(t, a, b, want)
	wantSomePlaces(t, a, b, want)
	wantWithin(t, a, b, want == len(a))
	wantCheck(t, a, b, api.OK)
}

func wantCheck(t *testing.T, a, b string, want api.Errno) {
	t.Helper()
	if e := Check(a, b); e != want {
		t.Errorf("Check of %d and %d bytes = %v; want %v", len(a), len(b), e, want)
	}
}

func expectTooLarge(t *testing.T, a, b string) {
	t.Helper()
	wantCheck(t, a, b, api.ErrLarge)
	if n, e := Long(a, b); e != api.ErrLarge || n != 0 {
		t.Errorf("Long of %d and %d bytes = %v, %v", len(a), len(b), n, e)
	}
	if x, y, e := Places(a, b); e != api.ErrLarge || len(x) != 0 || len(y) != 0 {
		t.Errorf("Places of %d and %d bytes = %v, %v, %v", len(a), len(b), x, y, e)
	}
	if is, e := Within(a, b); e != api.ErrLarge || is {
		t.Errorf("Within of %d and %d bytes = %v, %v", len(a), len(b), is, e)
	}
}

// upTo returns the numbers from 0 to n-1.
func upTo(n int) []int {
	var l []int
	for i := range n {
		l = append(l, i)
	}
	return l
}

func TestCheck(t *testing.T) { // P49
	full := strings.Repeat("a", api.MaxWord)
	for _, s := range []string{"", "a", "\x00\xff", full[1:], full, strings.Repeat("é", api.MaxWord/2)} {
		wantCheck(t, s, "", api.OK)
		wantCheck(t, "", s, api.OK)
		wantCheck(t, s, full, api.OK)
		wantCheck(t, full, s, api.OK)
	}
}

func TestLong(t *testing.T) { // P49
	tests := []struct {
		a, b string
		want int
	}{
		{"", "", 0},
		{"", "abc", 0},
		{"a", "a", 1},
		{"a", "b", 0},
		{"abc", "abc", 3},
		{"abc", "def", 0},
		{"abc", "cba", 1},
		{"abcb", "bdcb", 3},
		{"abcbdab", "bdcaba", 4},
		{"ace", "abcde", 3},
		{"aec", "abcde", 2},
		{"aaa", "aa", 2},
		{"abab", "baba", 3},
		{"kitten", "sitting", 4},
		// A byte that is taken as early as possible may cost others.
		{"xab", "abx", 2},
		{"xabyx", "abxyx", 4},
		{"\x00a\xff", "\xff\x00\xff", 2},
		// Bytes count, not characters: these two begin with the same byte.
		{"é", "è", 1},
	}
	for _, c := range tests {
		wantLong(t, c.a, c.b, c.want)
		wantLong(t, c.b, c.a, c.want)
		wantSomePlaces(t, c.a, c.b, c.want)
		wantSomePlaces(t, c.b, c.a, c.want)
	}
}

func TestPlaces(t *testing.T) { // P50
	tests := []struct {
		a, b     string
		inA, inB []int
	}{
		{"", "", nil, nil},
		{"", "a", nil, nil},
		{"a", "b", nil, nil},
		{"abc", "xbyc", []int{1, 2}, []int{1, 3}},
		{"ace", "abcde", []int{0, 1, 2}, []int{0, 2, 4}},
		{"xab", "abx", []int{1, 2}, []int{0, 1}},
		{"abcb", "bdcb", []int{1, 2, 3}, []int{0, 2, 3}},
		{"banana", "banana", upTo(6), upTo(6)},
		{"aab", "aaxb", upTo(3), []int{0, 1, 3}},
		{"\x00\x80\xff", "\xff\x00a\xff", []int{0, 2}, []int{1, 3}},
	}
	for _, c := range tests {
		wantPlaces(t, c.a, c.b, c.inA, c.inB)
		wantPlaces(t, c.b, c.a, c.inB, c.inA)
	}
}

func TestWithin(t *testing.T) { // P51
	tests := []struct {
		a, b string
		want bool
	}{
		{"", "", true},
		{"", "a", true},
		{"a", "", false},
		{"a", "a", true},
		{"a", "b", false},
		{"ace", "abcde", true},
		{"aec", "abcde", false},
		{"abcde", "ace", false},
		{"abc", "abcd", true},
		{"abc", "xabc", true},
		{"abc", "ab", false},
		{"abc", "bc", false},
		{"ba", "ab", false},
		// Each byte of b is there only once.
		{"aa", "a", false},
		{"aa", "ba", false},
		{"aa", "aba", true},
		{"aab", "aba", false},
		{"\x00\xff", "\x00a\xff", true},
		{"\x00", "a", false},
		{"\xa9\xc3", "éé", true},
	}
	for _, c := range tests {
		wantWithin(t, c.a, c.b, c.want)
	}
}

func TestAllShortWords(t *testing.T) { // P1, P49, P50, P51
	for _, words := range [][]string{
		sample.Words("ab", 6),
		sample.Words("abc", 4),
		sample.Words("\x00\x7f\x80\xff", 3),
	} {
		inside := map[string]map[string]bool{}
		for _, s := range words {
			inside[s] = subsequences(s)
		}
		for _, a := range words {
			for _, b := range words {
				want := slowLong(inside[a], inside[b])
				wantLong(t, a, b, want)
				wantSomePlaces(t, a, b, want)
				wantWithin(t, a, b, inside[b][a])
				// This shows that the two slow ways agree.
				compare(t, a, b)
			}
		}
	}
}

func TestLongWords(t *testing.T) { // P1, P49, P50, P51
	for _, sizes := range [][2]int{
		{api.MaxWord, api.MaxWord}, {api.MaxWord, 101}, {64, api.MaxWord}, {37, 41}, {1, api.MaxWord}, {0, api.MaxWord},
	} {
		for _, a := range sample.LongWords(sizes[0]) {
			for _, b := range sample.LongWords(sizes[1]) {
				compare(t, a, b)
			}
		}
	}
}

func TestKnownLongWords(t *testing.T) { // P49, P50, P51
	const n = api.MaxWord
	ramp, back := sample.Ramp(0, 1, n), sample.Ramp(n-1, -1, n)
	wantPlaces(t, ramp, ramp, upTo(n), upTo(n))
	wantLong(t, ramp, back, 1)
	wantWithin(t, ramp, ramp, true)
	wantWithin(t, ramp, back, false)
	wantLong(t, strings.Repeat("ab", n/2), strings.Repeat("ba", n/2), n-1)
	wantLong(t, strings.Repeat("a", n), strings.Repeat("b", n), 0)
	wantLong(t, strings.Repeat("a", n), strings.Repeat("ab", n/2), n/2)
	wantWithin(t, strings.Repeat("a", n/2), strings.Repeat("ba", n/2), true)
	wantWithin(t, strings.Repeat("a", n/2+1), strings.Repeat("ba", n/2), false)
	for k := range n {
		// The word without one byte, which it does not have twice.
		less := ramp[:k] + ramp[k+1:]
		wantPlaces(t, less, ramp, upTo(n-1), slices.Delete(upTo(n), k, k+1))
		wantWithin(t, less, ramp, true)
		wantWithin(t, ramp, less, false)
	}
}

func TestEveryByte(t *testing.T) { // P1, P49, P50, P51
	for b := range 256 {
		one := sample.Ramp(b, 1, 1)
		wantPlaces(t, one, one, []int{0}, []int{0})
		wantWithin(t, one, one, true)
		// Bytes that differ in one bit only are not the same.
		for bit := range 8 {
			other := sample.Ramp(b^1<<bit, 1, 1)
			wantLong(t, one, other, 0)
			wantWithin(t, one, other, false)
			wantPlaces(t, one+one, other+one, []int{1}, []int{1})
			compare(t, one+other+one, other+one+other)
		}
	}
}

func TestTooLarge(t *testing.T) { // P1, P2, P49, P50, P51
	full := strings.Repeat("a", api.MaxWord)
	for _, n := range []int{api.MaxWord + 1, api.MaxWord + 2, 256, 65536, 1 << 20} {
		large := strings.Repeat("a", n)
		for _, s := range []string{"", "a", "b", full, large, strings.Repeat("b", n)} {
			expectTooLarge(t, s, large)
			expectTooLarge(t, large, s)
		}
	}
	expectTooLarge(t, strings.Repeat("é", api.MaxWord/2+1), "é")
}

func TestResultsAreNewMemory(t *testing.T) { // P2
	words := []string{"abab", "baba", "", "abab", strings.Repeat("ab", api.MaxWord/2)}
	var results [][]int
	for _, a := range words {
		for _, b := range words {
			x, y, _ := Places(a, b)
			results = append(results, x, y)
		}
	}
	if !sample.Apart(results...) {
		t.Error("results share memory")
	}
	for _, l := range results {
		clear(l[:cap(l)])
	}
	for _, a := range words {
		for _, b := range words {
			compare(t, a, b)
		}
	}
}

// Which longest common subsequence it is may be chosen, but not anew each time.
func TestSamePlacesAgain(t *testing.T) { // P2, P50
	words := slices.Concat(sample.Words("ab", 4), sample.LongWords(50))
	type pair struct{ a, b string }
	type result struct{ x, y []int }
	first := map[pair]result{}
	for range 2 {
		for _, a := range words {
			for _, b := range words {
				x, y, _ := Places(a, b)
				before, known := first[pair{a, b}]
				if !known {
					first[pair{a, b}] = result{x, y}
				} else if !slices.Equal(x, before.x) || !slices.Equal(y, before.y) {
					t.Errorf("Places(%q, %q) = %v, %v; before, %v, %v", a, b, x, y, before.x, before.y)
				}
			}
		}
		expectTooLarge(t, strings.Repeat("a", api.MaxWord+1), "a")
	}
}
