package turn

import (
	"math"
	"slices"
	"strings"
	"testing"

	"quillward/api"
	"quillward/sample"
)

// The slow functions follow the document's words, so that the fast ones can be
// compared with them. They use nothing of the package.

func rotation(s string, at int) string {
	return s[at:] + s[:at]
}

// slowPut puts each rotation where the number of those before it says.
func slowPut(s string) (string, int) {
	last := make([]byte, len(s))
	first := 0
	for at := range len(s) {
		own := rotation(s, at)
		before := 0
		for other := range len(s) {
			r := rotation(s, other)
			if r < own || r == own && other < at {
				before++
			}
		}
		last[before] = own[len(own)-1]
		if at == 0 {
			first = before
		}
	}
	return string(last), first
}

func slowBound(t string, b byte, bound int) int {
	n := 0
	for i := range len(t) {
		if t[i] < b {
			n++
		}
		if i < bound && t[i] == b {
			n++
		}
	}
	return n
}

func slowCount(t, p string) int {
	low, high := 0, len(t)
	for left := p; left != "" && low < high; left = left[:len(left)-1] {
		b := left[len(left)-1]
		low, high = slowBound(t, b, low), slowBound(t, b, high)
	}
	return max(high-low, 0)
}

// cyclicCount returns the number of positions at which p occurs in s, if s is
// read as a circle, more than once around if p is longer.
func cyclicCount(s, p string) int {
	if s == "" {
		return 0
	}
	circle := strings.Repeat(s, len(p)/len(s)+2)
	n := 0
	for at := range len(s) {
		if strings.HasPrefix(circle[at:], p) {
			n++
		}
	}
	return n
}

func wantPut(t *testing.T, s, want string, wantAt int) {
	t.Helper()
	if r, at, e := Put(s); r != want || at != wantAt || e != api.OK {
		t.Errorf("Put(%q) = %q, %v, %v; want %q, %v", s, r, at, e, want, wantAt)
	}
}

func wantGet(t *testing.T, s string, at int, want string, wantE api.Errno) {
	t.Helper()
	if r, e := Get(s, at); r != want || e != wantE {
		t.Errorf("Get(%q, %d) = %q, %v; want %q, %v", s, at, r, e, want, wantE)
	}
}

func wantCount(t *testing.T, s, p string, want int, wantE api.Errno) {
	t.Helper()
	if n, e := Count(s, p); n != want || e != wantE {
		t.Errorf("Count(%q, %q) = %v, %v; want %v, %v", s, p, n, e, want, wantE)
	}
}

// compareWithSlow puts s, gets it back, and counts some of its substrings and
// texts that go on after its end.
func compareWithSlow(t *testing.T, s string) {
	t.Helper()
	put, at := slowPut(s)
	wantPut(t, s, put, at)
	wantGet(t, put, at, s, api.OK)
	wantCount(t, put, "", len(s), api.OK)
	for from := 0; from < len(s); from += len(s)/5 + 1 {
		for _, p := range []string{
			s[:from], s[from:], s[from : from+1], rotation(s, from),
			(rotation(s, from) + s)[:min(2*len(s), api.MaxWord)],
			s[:from] + s[:from+1], s[from:] + s[from:],
		} {
			if len(p) <= api.MaxWord {
				wantCount(t, put, p, cyclicCount(s, p), api.OK)
			}
		}
	}
}

// longWords returns words of every kind, with up to MaxWord bytes.
func longWords() []string {
	var words []string
	for n := 0; n <= api.MaxWord; n += 25 {
		words = append(words,
			strings.Repeat("a", n),
			strings.Repeat("ab", n)[:n],
			strings.Repeat("bba", n)[:n],
			strings.Repeat("mississippi", n)[:n],
			sample.Fibonacci(n),
			sample.Ramp(n, 1, n),
			sample.Ramp(n, -1, n),
			sample.Ramp(n, 64, n)+sample.Ramp(n, 3, api.MaxWord-n))
	}
	for n := 0; n < api.MaxWord; n += 33 {
		before := strings.Repeat("b", n)
		after := strings.Repeat("b", api.MaxWord-1-n)
		words = append(words, before+"a"+after, before+"c"+after)
	}
	return words
}

func TestPut(t *testing.T) { // P25
	tests := []struct {
		s, want string
		at      int
	}{
		{"", "", 0},
		{"a", "a", 0},
		{"ab", "ba", 0},
		{"ba", "ba", 1},
		{"banana", "nnbaaa", 3},
		{"mississippi", "pssmipissii", 4},
		{"abracadabra", "rdarcaaaabb", 2},
		// The rotation from position 0 is the first one of equal ones.
		{"aaaa", "aaaa", 0},
		{"abab", "bbaa", 0},
		{"baba", "bbaa", 2},
		{"cabcab", "ccaabb", 4},
		// A rotation does not end where a suffix does.
		{"aab", "baa", 0},
		{"aba", "baa", 1},
		{"baa", "baa", 2},
		{"\x80\x7f\xff\x00", "\xff\x80\x00\x7f", 2},
		{"a\x00a", "aa\x00", 1},
		{"é", "\xc3\xa9", 1},
	}
	for _, c := range tests {
		wantPut(t, c.s, c.want, c.at)
	}
}

func TestGet(t *testing.T) { // P26
	tests := []struct {
		t    string
		at   int
		want string
	}{
		{"", 0, ""},
		{"a", 0, "a"},
		{"ba", 0, "ab"},
		{"ba", 1, "ba"},
		{"nnbaaa", 0, "abanan"},
		{"nnbaaa", 3, "banana"},
		{"nnbaaa", 5, "nanaba"},
		{"pssmipissii", 4, "mississippi"},
		{"aaaa", 0, "aaaa"},
		{"bbaa", 0, "abab"},
		{"bbaa", 2, "baba"},
		{"ccaabb", 4, "cabcab"},
		{"\xff\x80\x00\x7f", 2, "\x80\x7f\xff\x00"},
	}
	for _, c := range tests {
		wantGet(t, c.t, c.at, c.want, api.OK)
	}
}

func TestGetOutOfRange(t *testing.T) { // P1, P2, P26
	for _, s := range []string{"", "a", "ba", "nnbaaa", strings.Repeat("a", api.MaxWord)} {
		for _, at := range []int{-1, -2, max(len(s), 1), len(s) + 1, api.MaxWord + 1, math.MinInt, math.MaxInt} {
			wantGet(t, s, at, "", api.ErrArg)
		}
	}
	// The range is checked before the form.
	wantGet(t, "ab", 2, "", api.ErrArg)
	wantGet(t, "ab", -1, "", api.ErrArg)
}

func TestGetWrongForm(t *testing.T) { // P1, P2, P26
	tests := []struct {
		t  string
		at int
	}{
		// No string has this transform.
		{"ab", 0},
		{"ab", 1},
		{"abc", 0},
		{"banana", 3},
		{"aab", 2},
		{sample.Ramp(0, 1, api.MaxWord), 0},
		{strings.Repeat("a", api.MaxWord-1) + "b", 7},
		// There is a string with this transform, but the rotation with this
		// index equals an earlier one, whose index Put returns.
		{"aaaa", 1},
		{"aaaa", 3},
		{"bbaa", 1},
		{"bbaa", 3},
		{"ccaabb", 5},
		{strings.Repeat("a", api.MaxWord), api.MaxWord - 1},
	}
	for _, c := range tests {
		wantGet(t, c.t, c.at, "", api.ErrForm)
	}
}

func TestCount(t *testing.T) { // P27
	tests := []struct {
		t, p string
		want int
	}{
		{"", "", 0},
		{"", "a", 0},
		{"a", "", 1},
		{"a", "a", 1},
		{"a", "b", 0},
		{"a", strings.Repeat("a", api.MaxWord), 1},
		{"nnbaaa", "", 6},
		{"nnbaaa", "a", 3},
		{"nnbaaa", "ana", 2},
		{"nnbaaa", "nab", 1},
		{"nnbaaa", "banana", 1},
		{"nnbaaa", "bananabananab", 1},
		{"nnbaaa", "x", 0},
		{"nnbaaa", "nn", 0},
		{"nnbaaa", "xa", 0},
		{"nnbaaa", "ax", 0},
		{"bbaa", "ab", 2},
		{"bbaa", "ababab", 2},
		{"bbaa", "aa", 0},
		// Not the transform of any string.
		{"ab", "a", 1},
		{"ab", "aa", 1},
		{"ab", "aaa", 1},
		{"ab", "ab", 0},
		{"aab", "aab", 0},
		{"aabb", "aaaa", 2},
		{"\xff\x00", "\x00\xff", 1},
	}
	for _, c := range tests {
		wantCount(t, c.t, c.p, c.want, api.OK)
	}
}

func TestAllShortWords(t *testing.T) { // P1, P25, P26
	for _, s := range slices.Concat(
		sample.Words("ab", 9),
		sample.Words("\x00\x80\xff", 6),
		sample.Words("abcd", 5),
	) {
		compareWithSlow(t, s)
	}
}

// A transform has the bytes of its string, so the words over the same signs
// show all indices to which there is a string.
func TestAllShortTransforms(t *testing.T) { // P1, P26
	type pair struct {
		t  string
		at int
	}
	for _, words := range [][]string{
		sample.Words("ab", 9), sample.Words("\x00\x80\xff", 6), sample.Words("abcd", 5),
	} {
		origins := map[pair]string{}
		for _, s := range words {
			put, at := slowPut(s)
			origins[pair{put, at}] = s
		}
		for _, s := range words {
			for at := -1; at <= len(s)+1; at++ {
				origin, there := origins[pair{s, at}]
				want := api.OK
				if at < 0 || at > 0 && at >= len(s) {
					want = api.ErrArg
				} else if !there {
					want = api.ErrForm
				}
				wantGet(t, s, at, origin, want)
			}
		}
	}
}

func TestAllShortCounts(t *testing.T) { // P1, P27
	for _, signs := range []string{"ab", "\x00\x80\xff"} {
		patterns := sample.Words(signs+"c", 4)
		for _, s := range sample.Words(signs, 5) {
			put, _ := slowPut(s)
			for _, p := range patterns {
				wantCount(t, s, p, slowCount(s, p), api.OK)
				wantCount(t, put, p, cyclicCount(s, p), api.OK)
			}
		}
	}
}

func TestLongWords(t *testing.T) { // P1, P25, P26, P27
	words := longWords()
	for i, s := range words {
		compareWithSlow(t, s)
		other := words[(i+7)%len(words)]
		wantCount(t, s, other, slowCount(s, other), api.OK)
		wantCount(t, s, s, slowCount(s, s), api.OK)
	}
}

func TestEveryByte(t *testing.T) { // P1, P25, P26, P27
	for b := range 256 {
		one := string([]byte{byte(b)})
		other := string([]byte{byte(b + 1)})
		compareWithSlow(t, one)
		compareWithSlow(t, one+other)
		compareWithSlow(t, other+one)
		compareWithSlow(t, one+one+other+other)
		compareWithSlow(t, strings.Repeat(one+other, 3))
		wantCount(t, one+one, one, 2, api.OK)
		wantCount(t, one+one, other, 0, api.OK)
	}
}

func TestTooLarge(t *testing.T) { // P1, P2, P25, P26, P27
	for _, s := range []string{
		strings.Repeat("a", api.MaxWord+1),
		strings.Repeat("ba", api.MaxWord),
		strings.Repeat("é", api.MaxWord/2+1),
		strings.Repeat("ab", 1<<19),
	} {
		if r, at, e := Put(s); r != "" || at != 0 || e != api.ErrLarge {
			t.Errorf("Put of %d bytes = %q, %v, %v", len(s), r, at, e)
		}
		// The length is checked before the range and the form.
		for _, at := range []int{-1, 0, 1, len(s) - 1, len(s), math.MinInt, math.MaxInt} {
			wantGet(t, s, at, "", api.ErrLarge)
		}
		wantCount(t, s, "", 0, api.ErrLarge)
		wantCount(t, s, "a", 0, api.ErrLarge)
		wantCount(t, s, s, 0, api.ErrLarge)
		// Even where no byte of the pattern would be looked at.
		wantCount(t, "", s, 0, api.ErrLarge)
		wantCount(t, "nnbaaa", s, 0, api.ErrLarge)
	}
}

func TestNoStateBetweenCalls(t *testing.T) { // P2
	for _, s := range []string{"abab", "", "banana", "abab", "b", "banana"} {
		compareWithSlow(t, s)
		wantGet(t, "ab", 0, "", api.ErrForm)
		wantGet(t, s, -1, "", api.ErrArg)
		wantCount(t, "nnbaaa", strings.Repeat("a", api.MaxWord+1), 0, api.ErrLarge)
		compareWithSlow(t, s)
	}
}
