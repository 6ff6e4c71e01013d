package ring

import (
	"math"
	"strings"
	"testing"

	"quillward/api"
	"quillward/sample"
)

// The slow functions follow the document's words, so that the fast ones can be
// compared with them.

const letters = "abcdefgh"

// slowAll returns the strings of length n over the first k letters.
func slowAll(k, n int) []string {
	if k == 1 {
		return []string{strings.Repeat("a", n)}
	}
	var found []string
	for _, s := range sample.Words(letters[:k], n) {
		if len(s) == n {
			found = append(found, s)
		}
	}
	return found
}

func rotation(s string, at int) string {
	return s[at:] + s[:at]
}

func slowRings(k, n int) int {
	rings := 0
	seen := map[string]bool{}
	for _, s := range slowAll(k, n) {
		if seen[s] {
			continue
		}
		rings++
		for at := range n {
			seen[rotation(s, at)] = true
		}
	}
	return rings
}

func slowWords(k, n int) int {
	words := 0
	for _, s := range slowAll(k, n) {
		at := 1
		for at < n && s < rotation(s, at) {
			at++
		}
		if at == n {
			words++
		}
	}
	return words
}

// isLine says whether s, read as a circle, has each string of length n over
// the first k letters at exactly one position.
func isLine(s string, k, n int) bool {
	if s == "" {
		return false
	}
	circle := strings.Repeat(s, n/len(s)+2)
	seen := map[string]int{}
	for at := range len(s) {
		seen[circle[at:at+n]]++
	}
	all := slowAll(k, n)
	for _, w := range all {
		if seen[w] != 1 {
			return false
		}
	}
	return len(s) == len(all)
}

// slowLine tries the strings that begin with s, of the length that a sequence
// has, in increasing order. It returns the first one that is a sequence, or the
// empty string if there is none.
func slowLine(s string, k, n int) string {
	if len(s) == int(power(k, n)) {
		if isLine(s, k, n) {
			return s
		}
		return ""
	}
	for i := range k {
		longer := s + letters[i:i+1]
		// With a string that is there already, this cannot become a sequence.
		if len(longer) >= n && strings.Contains(s, longer[len(longer)-n:]) {
			continue
		}
		if found := slowLine(longer, k, n); found != "" {
			return found
		}
	}
	return ""
}

// power returns the number of strings of length n over k letters.
func power(k, n int) float64 {
	return math.Pow(float64(k), float64(n))
}

func slowCheck(k, n int) api.Errno {
	switch {
	case k < 1 || k > 8 || n < 1 || n > 512:
		return api.ErrArg
	case power(k, n) > 512:
		return api.ErrLarge
	}
	return api.OK
}

// rightSizes calls try for each k and n that Check allows, n up to limit.
func rightSizes(limit int, try func(k, n int)) {
	for k := 1; k <= api.MaxSigns; k++ {
		for n := 1; n <= limit && power(k, n) <= api.MaxRing; n++ {
			try(k, n)
		}
	}
}

// expectError checks that each function reports the same error, and no other
// result.
func expectError(t *testing.T, k, n int, want api.Errno) {
	t.Helper()
	if e := Check(k, n); e != want {
		t.Errorf("Check(%d, %d) = %v; want %v", k, n, e, want)
	}
	if r, e := Rings(k, n); r != 0 || e != want {
		t.Errorf("Rings(%d, %d) = %v, %v; want %v", k, n, r, e, want)
	}
	if r, e := Words(k, n); r != 0 || e != want {
		t.Errorf("Words(%d, %d) = %v, %v; want %v", k, n, r, e, want)
	}
	if s, e := Line(k, n); s != "" || e != want {
		t.Errorf("Line(%d, %d) = %q, %v; want %v", k, n, s, e, want)
	}
}

func wantCounts(t *testing.T, k, n, rings, words int) {
	t.Helper()
	if r, e := Rings(k, n); r != rings || e != api.OK {
		t.Errorf("Rings(%d, %d) = %v, %v; want %v", k, n, r, e, rings)
	}
	if r, e := Words(k, n); r != words || e != api.OK {
		t.Errorf("Words(%d, %d) = %v, %v; want %v", k, n, r, e, words)
	}
}

func wantLine(t *testing.T, k, n int, want string) {
	t.Helper()
	if s, e := Line(k, n); s != want || e != api.OK {
		t.Errorf("Line(%d, %d) = %q, %v; want %q", k, n, s, e, want)
	}
}

func TestCheck(t *testing.T) { // P17
	tests := []struct {
		k, n int
		want api.Errno
	}{
		{1, 1, api.OK},
		{1, 512, api.OK},
		{1, 513, api.ErrArg},
		{2, 9, api.OK},
		{2, 10, api.ErrLarge},
		{3, 5, api.OK},
		{3, 6, api.ErrLarge},
		{4, 4, api.OK},
		{4, 5, api.ErrLarge},
		{5, 3, api.OK},
		{5, 4, api.ErrLarge},
		{7, 3, api.OK},
		{7, 4, api.ErrLarge},
		{8, 3, api.OK},
		{8, 4, api.ErrLarge},
		{8, 1, api.OK},
		{9, 1, api.ErrArg},
	}
	for _, c := range tests {
		if e := Check(c.k, c.n); e != c.want {
			t.Errorf("Check(%d, %d) = %v; want %v", c.k, c.n, e, c.want)
		}
	}
}

func TestCheckAllSizes(t *testing.T) { // P1, P17
	for k := -3; k <= 20; k++ {
		for n := -3; n <= 1100; n++ {
			if e := Check(k, n); e != slowCheck(k, n) {
				t.Errorf("Check(%d, %d) = %v; want %v", k, n, e, slowCheck(k, n))
			}
		}
	}
}

func TestErrors(t *testing.T) { // P1, P2, P17, P18, P19, P20
	far := []int{0, -1, -512, 1 << 31, -1 << 31, 1 << 32, 1<<32 + 1, math.MaxInt, math.MinInt}
	for _, bad := range append(far, api.MaxSigns+1, 256, 257) {
		for _, n := range append(far, 1, 9, 10, api.MaxRing, api.MaxRing+1) {
			expectError(t, bad, n, api.ErrArg)
		}
	}
	for _, bad := range append(far, api.MaxRing+1, 1024) {
		// More strings than allowed, but the length comes first.
		for k := 1; k <= api.MaxSigns; k++ {
			expectError(t, k, bad, api.ErrArg)
		}
	}
	for k := 2; k <= api.MaxSigns; k++ {
		for n := 1; n <= api.MaxRing; n++ {
			if power(k, n) > api.MaxRing {
				expectError(t, k, n, api.ErrLarge)
			}
		}
	}
}

func TestCounts(t *testing.T) { // P18, P19
	tests := []struct {
		k, n, rings, words int
	}{
		{1, 1, 1, 1},
		{1, 2, 1, 0},
		{1, 200, 1, 0},
		{1, 201, 1, 0},
		{1, 480, 1, 0},
		{1, 512, 1, 0},
		{2, 1, 2, 2},
		{2, 2, 3, 1},
		{2, 3, 4, 2},
		{2, 4, 6, 3},
		{2, 5, 8, 6},
		{2, 6, 14, 9},
		{2, 7, 20, 18},
		{2, 8, 36, 30},
		{2, 9, 60, 56},
		{3, 3, 11, 8},
		{3, 4, 24, 18},
		{3, 5, 51, 48},
		{4, 4, 70, 60},
		{7, 3, 119, 112},
		{8, 1, 8, 8},
		{8, 2, 36, 28},
		{8, 3, 176, 168},
	}
	for _, c := range tests {
		wantCounts(t, c.k, c.n, c.rings, c.words)
	}
}

func TestAllCounts(t *testing.T) { // P1, P18, P19
	rightSizes(api.MaxRing, func(k, n int) {
		wantCounts(t, k, n, slowRings(k, n), slowWords(k, n))
	})
}

func TestLine(t *testing.T) { // P20
	tests := []struct {
		k, n int
		want string
	}{
		{1, 1, "a"},
		{1, 2, "a"},
		{1, 5, "a"},
		{1, 200, "a"},
		{2, 1, "ab"},
		{2, 2, "aabb"},
		{2, 3, "aaababbb"},
		{2, 4, "aaaabaabbababbbb"},
		{2, 5, "aaaaabaaabbaababaabbbababbabbbbb"},
		{3, 1, "abc"},
		{3, 2, "aabacbbcc"},
		{3, 3, "aaabaacabbabcacbaccbbbcbccc"},
		{4, 2, "aabacadbbcbdccdd"},
		{8, 1, "abcdefgh"},
	}
	for _, c := range tests {
		wantLine(t, c.k, c.n, c.want)
	}
}

func TestAllLines(t *testing.T) { // P1, P20
	rightSizes(api.MaxWord, func(k, n int) {
		wantLine(t, k, n, slowLine("", k, n))
	})
}

// Only Line limits n by MaxWord; with one letter, the other functions go on.
func TestLongLines(t *testing.T) { // P1, P2, P20
	for n := api.MaxWord + 1; n <= api.MaxRing; n++ {
		if s, e := Line(1, n); s != "" || e != api.ErrLarge {
			t.Errorf("Line(1, %d) = %q, %v", n, s, e)
		}
		if e := Check(1, n); e != api.OK {
			t.Errorf("Check(1, %d) = %v", n, e)
		}
		wantCounts(t, 1, n, 1, 0)
	}
}

func TestNoStateBetweenCalls(t *testing.T) { // P2
	for range 3 {
		wantCounts(t, 2, 3, 4, 2)
		wantLine(t, 2, 2, "aabb")
		expectError(t, 9, 1, api.ErrArg)
		wantLine(t, 8, 1, letters)
		expectError(t, 8, 4, api.ErrLarge)
		wantCounts(t, 1, 512, 1, 0)
		wantLine(t, 1, 5, "a")
	}
}
