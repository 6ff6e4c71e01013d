package dist

import (
	"math"
	"slices"
	"strings"
	"testing"

	"quillward/api"
	"quillward/sample"
)

// The slow functions follow the document's words, so that the fast ones can be
// compared with them. They use nothing of the package.

// replacements returns what replacing one byte of s by a sign can make of it.
func replacements(s, signs string) []string {
	var l []string
	for i := range len(s) {
		for k := range len(signs) {
			l = append(l, s[:i]+signs[k:k+1]+s[i+1:])
		}
	}
	return l
}

// edits returns what one insertion, deletion or replacement can make of s.
func edits(s, signs string) []string {
	l := replacements(s, signs)
	for i := range len(s) {
		l = append(l, s[:i]+s[i+1:])
	}
	for i := range len(s) + 1 {
		for k := range len(signs) {
			l = append(l, s[:i]+signs[k:k+1]+s[i:])
		}
	}
	return l
}

// steps returns how many steps it takes from the word a to each word over the
// signs with at most n bytes, if it can be reached. No word with more bytes is
// on the way: deletions can come first and insertions last.
func steps(a, signs string, n int, next func(s, signs string) []string) map[string]int {
	found := map[string]int{a: 0}
	for queue := []string{a}; len(queue) > 0; queue = queue[1:] {
		for _, s := range next(queue[0], signs) {
			if _, known := found[s]; !known && len(s) <= n {
				found[s] = found[queue[0]] + 1
				queue = append(queue, s)
			}
		}
	}
	return found
}

// slowOf is for words that are too long for steps. For each number of edits it
// keeps how many bytes of a can be used up at most, by how many more bytes of b
// are used up then.
func slowOf(a, b string) int {
	reach := map[int]int{0: slide(a, b, 0, 0)}
	for n := 0; ; n++ {
		if i, there := reach[len(b)-len(a)]; there && i == len(a) {
			return n
		}
		further := map[int]int{}
		for more, i := range reach {
			reachPlace(further, a, b, i+1, i+1+more)
			reachPlace(further, a, b, i+1, i+more)
			reachPlace(further, a, b, i, i+more+1)
		}
		reach = further
	}
}

// reachPlace notes that i bytes of a and j bytes of b can be used up.
func reachPlace(reach map[int]int, a, b string, i, j int) {
	if i <= len(a) && j <= len(b) {
		reach[j-i] = max(reach[j-i], slide(a, b, i, j))
	}
}

// slide returns how many bytes of a are used up after i of them, and j of b,
// and then all those that are the same.
func slide(a, b string, i, j int) int {
	for i < len(a) && j < len(b) && a[i] == b[j] {
		i, j = i+1, j+1
	}
	return i
}

// slowNear expects the distance of each element.
func slowNear(distances []int, most int) []int {
	var found []int
	for i, n := range distances {
		if n <= most {
			found = append(found, i)
		}
	}
	return found
}

func wantOf(t *testing.T, a, b string, want int) {
	t.Helper()
	if n, e := Of(a, b); e != api.OK || n != want {
		t.Errorf("Of(%q, %q) = %v, %v; want %v", a, b, n, e, want)
	}
}

func wantNear(t *testing.T, s string, l []string, most int, want []int) {
	t.Helper()
	if found, e := Near(s, l, most); e != api.OK || !slices.Equal(found, want) {
		t.Errorf("Near(%q, %q, %v) = %v, %v; want %v", s, l, most, found, e, want)
	}
}

func wantSwaps(t *testing.T, a, b string, want int) {
	t.Helper()
	if n, e := Swaps(a, b); e != api.OK || n != want {
		t.Errorf("Swaps(%q, %q) = %v, %v; want %v", a, b, n, e, want)
	}
}

func expectSwapsError(t *testing.T, a, b string, want api.Errno) {
	t.Helper()
	if n, e := Swaps(a, b); e != want || n != 0 {
		t.Errorf("Swaps of %d and %d bytes = %v, %v; want %v", len(a), len(b), n, e, want)
	}
}

func expectTooLarge(t *testing.T, a, b string) {
	t.Helper()
	if n, e := Of(a, b); e != api.ErrLarge || n != 0 {
		t.Errorf("Of of %d and %d bytes = %v, %v", len(a), len(b), n, e)
	}
	expectSwapsError(t, a, b, api.ErrLarge)
	expectNearTooLarge(t, a, []string{b})
}

func expectNearTooLarge(t *testing.T, s string, l []string) {
	t.Helper()
	for _, most := range anyMost() {
		if found, e := Near(s, l, most); e != api.ErrLarge || len(found) != 0 {
			t.Errorf("Near of %d bytes, %d strings and %v = %v, %v", len(s), len(l), most, found, e)
		}
	}
}

// compareNear checks Near for every kind of most.
func compareNear(t *testing.T, s string, l []string, distances []int) {
	t.Helper()
	for _, most := range anyMost() {
		wantNear(t, s, l, most, slowNear(distances, most))
	}
}

// compare checks all functions for a and b, which may be long.
func compare(t *testing.T, a, b string) {
	t.Helper()
	want := slowOf(a, b)
	wantOf(t, a, b, want)
	wantNear(t, a, []string{b, a}, want, []int{0, 1})
	wantNear(t, a, []string{b}, want-1, nil)
	if len(a) != len(b) {
		expectSwapsError(t, a, b, api.ErrForm)
	}
}

// anyMost returns numbers of every kind, with all from -1 to 8.
func anyMost() []int {
	return []int{
		math.MinInt, math.MinInt + 1, -1 << 32, math.MinInt32, -256, -2, -1, 0, 1, 2, 3, 4, 5, 6, 7, 8,
		api.MaxWord - 1, api.MaxWord, api.MaxWord + 1, 256, math.MaxInt32, 1 << 32, math.MaxInt - 1, math.MaxInt,
	}
}

// upTo returns the numbers from 0 to n-1.
func upTo(n int) []int {
	var l []int
	for i := range n {
		l = append(l, i)
	}
	return l
}

// altered returns s with other bytes at the places.
func altered(s string, places ...int) string {
	text := []byte(s)
	for k, i := range places {
		text[i] ^= byte(1 + k%255)
	}
	return string(text)
}

func TestOf(t *testing.T) { // P52
	tests := []struct {
		a, b string
		want int
	}{
		{"", "", 0},
		{"", "a", 1},
		{"", "abc", 3},
		{"a", "a", 0},
		{"a", "b", 1},
		{"abc", "abc", 0},
		{"abc", "ab", 1},
		{"abc", "bc", 1},
		{"abc", "ac", 1},
		{"abc", "axc", 1},
		{"abc", "def", 3},
		{"abc", "cba", 2},
		// An exchange of two bytes is no edit of its own.
		{"ab", "ba", 2},
		{"abcd", "acbd", 2},
		{"kitten", "sitting", 3},
		{"sunday", "saturday", 3},
		{"intention", "execution", 5},
		{"abcdef", "bcdefa", 2},
		{"abcdefgh", "xabcdefg", 2},
		{"aaa", "aaaaa", 2},
		{"abab", "baba", 2},
		// The longest common subsequence alone is not enough: here its
		// length is 1 for both.
		{"ab", "xa", 2},
		{"ab", "ax", 1},
		{"\x00a\xff", "\xff\x00a", 2},
		// Bytes count, not characters.
		{"é", "è", 1},
		{"é", "e", 2},
		{"a", "é", 2},
	}
	for _, c := range tests {
		wantOf(t, c.a, c.b, c.want)
		wantOf(t, c.b, c.a, c.want)
	}
}

func TestNear(t *testing.T) { // P53
	tests := []struct {
		s    string
		l    []string
		most int
		want []int
	}{
		{"ab", []string{"abc", "b", "xyz"}, 1, []int{0, 1}},
		{"ab", []string{"abc", "b", "xyz"}, 0, nil},
		{"ab", []string{"abc", "b", "xyz"}, 2, []int{0, 1}},
		{"ab", []string{"abc", "b", "xyz"}, 3, []int{0, 1, 2}},
		{"ab", []string{"xyz", "b", "abc"}, 1, []int{1, 2}},
		// The order is that of the list, not that of the distances.
		{"ab", []string{"xyz", "abc", "ab"}, 9, []int{0, 1, 2}},
		{"ab", []string{"ab", "abc", "ab"}, 0, []int{0, 2}},
		{"ab", []string{"ab", "ab", "ab"}, 0, []int{0, 1, 2}},
		{"ab", []string{"ab"}, -1, nil},
		{"ab", []string{"ab"}, math.MinInt, nil},
		{"ab", []string{"xyz"}, math.MaxInt, []int{0}},
		{"ab", nil, 0, nil},
		{"ab", nil, math.MaxInt, nil},
		{"", []string{"", "a", "ab"}, 0, []int{0}},
		{"", []string{"ab", "a", ""}, 1, []int{1, 2}},
		{"abc", []string{"", "a"}, 2, []int{1}},
		{"ab", []string{"ba"}, 1, nil},
		{"kitten", []string{"sitting", "mitten", "kitten", "knitting"}, 3, []int{0, 1, 2, 3}},
		{"kitten", []string{"sitting", "mitten", "kitten", "knitting"}, 2, []int{1, 2}},
		{"é", []string{"e", "è"}, 1, []int{1}},
	}
	for _, c := range tests {
		wantNear(t, c.s, c.l, c.most, c.want)
	}
}

func TestSwaps(t *testing.T) { // P54
	tests := []struct {
		a, b string
		want int
	}{
		{"", "", 0},
		{"a", "a", 0},
		{"a", "b", 1},
		{"abc", "abc", 0},
		{"abc", "xbc", 1},
		{"abc", "axc", 1},
		{"abc", "abx", 1},
		{"abc", "def", 3},
		{"ab", "ba", 2},
		{"karolin", "kathrin", 3},
		{"1011101", "1001001", 2},
		// The places count, not what else is in common.
		{"abcdef", "bcdefa", 6},
		{"\x00\x00", "\x00\xff", 1},
		// Bytes count, not characters.
		{"é", "è", 1},
		{"é", "ab", 2},
	}
	for _, c := range tests {
		wantSwaps(t, c.a, c.b, c.want)
		wantSwaps(t, c.b, c.a, c.want)
	}
}

func TestAllShortWords(t *testing.T) { // P1, P52, P53, P54
	for _, c := range []struct {
		signs string
		n     int
	}{{"ab", 6}, {"abc", 4}, {"\x00\x7f\x80\xff", 3}} {
		words := sample.Words(c.signs, c.n)
		for _, a := range words {
			far := steps(a, c.signs, c.n, edits)
			swaps := steps(a, c.signs, c.n, replacements)
			for _, b := range words {
				wantOf(t, a, b, far[b])
				if n, there := swaps[b]; there {
					wantSwaps(t, a, b, n)
				} else {
					expectSwapsError(t, a, b, api.ErrForm)
				}
				// This shows that the two slow ways agree.
				compare(t, a, b)
			}
		}
	}
}

func TestAllShortLists(t *testing.T) { // P1, P53
	for _, c := range []struct {
		signs string
		n     int
	}{{"ab", 5}, {"\x00\x80\xff", 3}} {
		words := sample.Words(c.signs, c.n)
		for _, s := range words {
			far := steps(s, c.signs, c.n, edits)
			for range 2 {
				var distances []int
				for _, w := range words {
					distances = append(distances, far[w])
				}
				compareNear(t, s, words, distances)
				slices.Reverse(words)
			}
		}
	}
	short := sample.Words("ab", 2)
	for _, s := range short {
		far := steps(s, "ab", 2, edits)
		for _, a := range short {
			for _, b := range short {
				compareNear(t, s, []string{a, b, a}, []int{far[a], far[b], far[a]})
			}
		}
	}
}

func TestLongWords(t *testing.T) { // P1, P52, P53, P54
	for _, sizes := range [][2]int{
		{api.MaxWord, api.MaxWord}, {api.MaxWord, api.MaxWord - 1}, {101, api.MaxWord}, {api.MaxWord, 64},
		{37, 41}, {1, api.MaxWord}, {0, api.MaxWord}, {api.MaxWord, 0},
	} {
		for _, a := range sample.LongWords(sizes[0]) {
			for _, b := range sample.LongWords(sizes[1]) {
				compare(t, a, b)
			}
		}
	}
}

func TestKnownLongWords(t *testing.T) { // P52, P54
	const n = api.MaxWord
	ramp := sample.Ramp(0, 1, n)
	wantOf(t, ramp, ramp, 0)
	wantOf(t, ramp, "", n)
	wantOf(t, "", ramp, n)
	wantOf(t, strings.Repeat("a", n), strings.Repeat("b", n), n)
	wantSwaps(t, strings.Repeat("a", n), strings.Repeat("b", n), n)
	wantOf(t, strings.Repeat("ab", n/2), strings.Repeat("ba", n/2), 2)
	wantSwaps(t, strings.Repeat("ab", n/2), strings.Repeat("ba", n/2), n)
	wantOf(t, strings.Repeat("a", n), strings.Repeat("ab", n/2), n/2)
	wantSwaps(t, strings.Repeat("a", n), strings.Repeat("ab", n/2), n/2)
	wantSwaps(t, ramp, ramp[1:]+ramp[:1], n)
	for k := range n {
		wantOf(t, ramp[:k]+ramp[k+1:], ramp, 1)
		wantOf(t, ramp, ramp[:k]+ramp[k+1:], 1)
		wantOf(t, ramp[:k], ramp, n-k)
		wantOf(t, ramp, ramp[k:], k)
		wantOf(t, ramp, altered(ramp, k), 1)
		wantSwaps(t, ramp, altered(ramp, k), 1)
		wantSwaps(t, ramp, altered(ramp, upTo(k)...), k)
		wantSwaps(t, altered(ramp, upTo(n)[k:]...), ramp, n-k)
	}
}

func TestEveryByte(t *testing.T) { // P1, P52, P53, P54
	for b := range 256 {
		one := sample.Ramp(b, 1, 1)
		wantOf(t, one, one, 0)
		wantSwaps(t, one, one, 0)
		// Bytes that differ in one bit only are not the same.
		for bit := range 8 {
			other := sample.Ramp(b^1<<bit, 1, 1)
			wantOf(t, one, other, 1)
			wantSwaps(t, one+one, other+one, 1)
			wantNear(t, one, []string{other, one, other}, 0, []int{1})
			compare(t, one+other+one, other+one+other)
		}
	}
}

func TestLongLists(t *testing.T) { // P1, P53
	const n = api.MaxWord
	ramp := sample.Ramp(0, 1, n)
	var fronts, equal []string
	for k := range n {
		fronts = append(fronts, ramp[:k+1])
		equal = append(equal, ramp)
	}
	for most := range n {
		wantNear(t, "", fronts, most, upTo(most))
	}
	for _, most := range []int{0, 1, 7, n - 1, n, n + 1, math.MaxInt} {
		wantNear(t, ramp, fronts, most, upTo(n)[max(n-1-most, 0):])
		wantNear(t, ramp, equal, most, upTo(n))
		wantNear(t, ramp, equal, -most-1, nil)
		wantNear(t, "", equal, min(most, n-1), nil)
	}
	words := sample.LongWords(n)
	for _, s := range words {
		var distances []int
		for _, w := range words {
			distances = append(distances, slowOf(s, w))
		}
		for _, most := range distances {
			wantNear(t, s, words, most, slowNear(distances, most))
			wantNear(t, s, words, most-1, slowNear(distances, most-1))
		}
	}
}

func TestTooLarge(t *testing.T) { // P1, P2, P52, P53, P54
	full := strings.Repeat("a", api.MaxWord)
	for _, n := range []int{api.MaxWord + 1, api.MaxWord + 2, 256, 65536, 1 << 20} {
		large := strings.Repeat("a", n)
		for _, s := range []string{"", "a", "b", full, large, large[1:], strings.Repeat("b", n)} {
			expectTooLarge(t, s, large)
			expectTooLarge(t, large, s)
		}
		expectNearTooLarge(t, large, nil)
	}
	expectTooLarge(t, strings.Repeat("é", api.MaxWord/2+1), "é")
}

func TestNearTooLarge(t *testing.T) { // P1, P2, P53
	full := strings.Repeat("a", api.MaxWord)
	for _, n := range []int{api.MaxWord + 1, api.MaxWord + 2, 256, 65536} {
		expectNearTooLarge(t, "", make([]string, n))
		expectNearTooLarge(t, full, slices.Repeat([]string{full}, n))
		expectNearTooLarge(t, full+"a", slices.Repeat([]string{full + "a"}, n))
	}
	// One element is too long, wherever it is.
	l := make([]string, api.MaxWord)
	for i := range l {
		l[i] = full + "a"
		expectNearTooLarge(t, "", l)
		expectNearTooLarge(t, full, l[:i+1])
		expectNearTooLarge(t, full, l[i:])
		l[i] = ""
	}
	wantNear(t, "", l, 0, upTo(api.MaxWord))
}

func TestSwapsOfDifferentLengths(t *testing.T) { // P1, P2, P54
	full := strings.Repeat("a", api.MaxWord)
	for n := range api.MaxWord {
		expectSwapsError(t, full[:n], full[:n+1], api.ErrForm)
		expectSwapsError(t, full[:n+1], full[:n], api.ErrForm)
		expectSwapsError(t, full[:n], full, api.ErrForm)
		expectSwapsError(t, full[:n+1], "", api.ErrForm)
		// The size of a word comes before the comparison of the sizes.
		expectSwapsError(t, full[:n], full+"a", api.ErrLarge)
		expectSwapsError(t, full+"a", full[:n], api.ErrLarge)
	}
	expectSwapsError(t, "é", "e", api.ErrForm)
	expectSwapsError(t, full+"a", full+"a", api.ErrLarge)
}

func TestArgumentsAreLeft(t *testing.T) { // P2
	memory := []string{"b", "ab", "", "a", "b", strings.Repeat("a", api.MaxWord+1)}
	before := slices.Clone(memory)
	wantNear(t, "b", memory[:4], 1, []int{0, 1, 2, 3})
	wantNear(t, "b", memory[:5], 0, []int{0, 4})
	expectNearTooLarge(t, "b", memory)
	if !slices.Equal(memory, before) {
		t.Errorf("the strings became %q", memory)
	}
}

func TestResultsAreNewMemory(t *testing.T) { // P2
	l := []string{"abab", "b", "", "abab", "aba", "bbbb"}
	// The distances from "ab".
	distances := []int{2, 1, 2, 2, 1, 3}
	var results [][]int
	for range 2 {
		for most := range 5 {
			found, _ := Near("ab", l, most)
			results = append(results, found)
		}
	}
	for i, found := range results {
		if !slices.Equal(found, slowNear(distances, i%5)) {
			t.Errorf("the result for %d is %v after later calls", i%5, found)
		}
	}
	if !sample.Apart(results...) {
		t.Error("results share memory")
	}
	for _, found := range results {
		clear(found[:cap(found)])
	}
	compareNear(t, "ab", l, distances)
}

func TestNoStateBetweenCalls(t *testing.T) { // P2
	for _, s := range []string{"abab", "", strings.Repeat("ab", api.MaxWord/2), "aaaa", "abab", "b"} {
		compare(t, s, "baab")
		compare(t, "baab", s)
		expectTooLarge(t, s, strings.Repeat("a", api.MaxWord+1))
		compare(t, s, "baab")
	}
}
