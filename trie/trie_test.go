package trie

import (
	"cmp"
	"slices"
	"strings"
	"testing"

	"quillward/api"
	"quillward/sample"
)

// The slow functions follow the document's words, so that the fast ones can be
// compared with them.

func slowFind(s string, pats []string) []api.Hit {
	var hits []api.Hit
	for at := range len(s) {
		for which, pat := range pats {
			if strings.HasPrefix(s[at:], pat) {
				hits = append(hits, api.Hit{At: at, Which: which})
			}
		}
	}
	return hits
}

func slowFronts(pats []string, front string) []int {
	var found []int
	for which, pat := range pats {
		if strings.HasPrefix(pat, front) {
			found = append(found, which)
		}
	}
	slices.SortFunc(found, func(i, k int) int { return cmp.Compare(pats[i], pats[k]) })
	return found
}

func compareFind(t *testing.T, s string, pats []string) {
	t.Helper()
	if l, e := Find(s, pats); e != api.OK || !slices.Equal(l, slowFind(s, pats)) {
		t.Errorf("Find(%q, %q) = %v, %v; want %v", s, pats, l, e, slowFind(s, pats))
	}
}

func compareFronts(t *testing.T, pats []string, front string) {
	t.Helper()
	if l, e := Fronts(pats, front); e != api.OK || !slices.Equal(l, slowFronts(pats, front)) {
		t.Errorf("Fronts(%q, %q) = %v, %v; want %v", pats, front, l, e, slowFronts(pats, front))
	}
}

// expectError checks that each function reports the same error for pats, and
// no other result.
func expectError(t *testing.T, pats []string, want api.Errno) {
	t.Helper()
	if e := Check(pats); e != want {
		t.Errorf("Check(%q) = %v; want %v", pats, e, want)
	}
	for _, s := range []string{"", "a", strings.Repeat("a", api.MaxWord)} {
		if l, e := Find(s, pats); e != want || len(l) != 0 {
			t.Errorf("Find(%q, %q) = %v, %v; want %v", s, pats, l, e, want)
		}
		if l, e := Fronts(pats, s); e != want || len(l) != 0 {
			t.Errorf("Fronts(%q, %q) = %v, %v; want %v", pats, s, l, e, want)
		}
	}
}

// numbered returns n different patterns.
func numbered(n int) []string {
	var pats []string
	for i := range n {
		pats = append(pats, string([]byte{'a', byte(i)}))
	}
	return pats
}

func TestCheck(t *testing.T) { // P10
	longest := strings.Repeat("a", api.MaxPat)
	for _, pats := range [][]string{
		nil,
		{},
		{"a"},
		{"a", "b"},
		{"a", "aa", "aaa"},
		{"aa", "a"},
		{longest},
		{longest, longest[1:], longest[1:] + "b"},
		{"\x00", "\x00\x00", "\xff"},
		numbered(api.MaxPats),
	} {
		if e := Check(pats); e != api.OK {
			t.Errorf("Check(%q) = %v", pats, e)
		}
	}
}

func TestErrors(t *testing.T) { // P1, P2, P10, P11, P12
	large := strings.Repeat("a", api.MaxPat+1)
	tests := []struct {
		pats []string
		want api.Errno
	}{
		{[]string{""}, api.ErrEmpty},
		{[]string{"a", ""}, api.ErrEmpty},
		{[]string{"", ""}, api.ErrEmpty},
		{[]string{large}, api.ErrLarge},
		{[]string{strings.Repeat("b", 1<<20)}, api.ErrLarge},
		{[]string{"a", large}, api.ErrLarge},
		{[]string{large, large}, api.ErrLarge},
		{[]string{"a", "a"}, api.ErrThere},
		{[]string{"a", "b", "a"}, api.ErrThere},
		{[]string{"b", "a", "a"}, api.ErrThere},
		{[]string{large[1:], large[1:]}, api.ErrThere},
		// The first pattern with an error counts.
		{[]string{"", large}, api.ErrEmpty},
		{[]string{large, ""}, api.ErrLarge},
		{[]string{"a", "a", ""}, api.ErrThere},
		{[]string{"a", "", "a"}, api.ErrEmpty},
		{[]string{"a", "a", large}, api.ErrThere},
		{[]string{"a", large, "a"}, api.ErrLarge},
		// The number of patterns comes before any of them.
		{numbered(api.MaxPats + 1), api.ErrLarge},
		{make([]string, api.MaxPats), api.ErrEmpty},
		{make([]string, api.MaxPats+1), api.ErrLarge},
		{slices.Repeat([]string{"a"}, api.MaxPats), api.ErrThere},
		{slices.Repeat([]string{"a"}, api.MaxPats+1), api.ErrLarge},
		{make([]string, 1<<20), api.ErrLarge},
		{append(numbered(api.MaxPats-1), numbered(1)...), api.ErrThere},
		{append(numbered(api.MaxPats-1), ""), api.ErrEmpty},
		{append(numbered(api.MaxPats-1), large), api.ErrLarge},
	}
	for _, c := range tests {
		expectError(t, c.pats, c.want)
	}
}

func TestLargeText(t *testing.T) { // P1, P2, P11
	large := strings.Repeat("a", api.MaxWord+1)
	for _, pats := range [][]string{nil, {"a"}, {""}, {"a", "a"}, {large}} {
		if l, e := Find(large, pats); e != api.ErrLarge || len(l) != 0 {
			t.Errorf("Find of %d bytes, %q: %v, %v", len(large), pats, l, e)
		}
	}
	if l, e := Find(strings.Repeat("a", 1<<20), []string{"a"}); e != api.ErrLarge || len(l) != 0 {
		t.Error(l, e)
	}
}

func TestFind(t *testing.T) { // P11
	tests := []struct {
		s    string
		pats []string
		want []api.Hit
	}{
		{"ab", []string{"ab", "b"}, []api.Hit{{At: 0, Which: 0}, {At: 1, Which: 1}}},
		{"", []string{"a"}, nil},
		{"a", nil, nil},
		{"", nil, nil},
		{"abc", []string{"d", "abcd", "cb"}, nil},
		{"a", []string{"aa", "a"}, []api.Hit{{At: 0, Which: 1}}},
		{"aa", []string{"aa", "a"}, []api.Hit{{At: 0, Which: 0}, {At: 0, Which: 1}, {At: 1, Which: 1}}},
		{"aa", []string{"a", "aa"}, []api.Hit{{At: 0, Which: 0}, {At: 0, Which: 1}, {At: 1, Which: 0}}},
		{"ushers", []string{"hers", "she", "he", "s"}, []api.Hit{
			{At: 1, Which: 1}, {At: 1, Which: 3}, {At: 2, Which: 0}, {At: 2, Which: 2}, {At: 5, Which: 3}}},
		{"\x00\xff\x00", []string{"\xff\x00", "\x00"}, []api.Hit{
			{At: 0, Which: 1}, {At: 1, Which: 0}, {At: 2, Which: 1}}},
	}
	for _, c := range tests {
		if l, e := Find(c.s, c.pats); e != api.OK || !slices.Equal(l, c.want) {
			t.Errorf("Find(%q, %q) = %v, %v; want %v", c.s, c.pats, l, e, c.want)
		}
	}
}

func TestFronts(t *testing.T) { // P12
	tests := []struct {
		pats  []string
		front string
		want  []int
	}{
		{nil, "", nil},
		{nil, "a", nil},
		{[]string{"b", "ab", "a"}, "", []int{2, 1, 0}},
		{[]string{"b", "ab", "a"}, "a", []int{2, 1}},
		{[]string{"b", "ab", "a"}, "ab", []int{1}},
		{[]string{"b", "ab", "a"}, "abc", nil},
		{[]string{"b", "ab", "a"}, "c", nil},
		{[]string{"ab", "b"}, "b", []int{1}},
		{[]string{"abc", "abd"}, "ab", []int{0, 1}},
		{[]string{"abd", "abc"}, "a", []int{1, 0}},
		{[]string{"\xff", "\x80", "\x7f", "\x00"}, "", []int{3, 2, 1, 0}},
		{[]string{"a\xff", "b", "aa\x00", "aa"}, "", []int{3, 2, 0, 1}},
	}
	for _, c := range tests {
		if l, e := Fronts(c.pats, c.front); e != api.OK || !slices.Equal(l, c.want) {
			t.Errorf("Fronts(%q, %q) = %v, %v; want %v", c.pats, c.front, l, e, c.want)
		}
	}
}

func TestAllShortPatterns(t *testing.T) { // P1, P11, P12
	for _, signs := range []string{"ab", "\x00\xff"} {
		texts := append(sample.Words(signs, 3), strings.Repeat(signs, 3)+signs[1:]+signs)
		for _, pats := range sample.Lists(sample.Words(signs, 3)[1:], 3) {
			for _, s := range texts {
				compareFind(t, s, pats)
				compareFronts(t, pats, s)
			}
		}
	}
}

func TestManyLongPatterns(t *testing.T) { // P1, P11, P12
	const n = api.MaxWord
	texts := []string{
		strings.Repeat("a", n),
		strings.Repeat("ab", n/2),
		strings.Repeat("a", n-1) + "b",
		sample.Fibonacci(n),
	}
	for _, s := range texts {
		for step := 1; step <= api.MaxPat/api.MaxPats; step++ {
			var pats []string
			for k := range api.MaxPats {
				pats = append(pats, s[n-api.MaxPat+k*step:])
			}
			compareFind(t, s, pats)
			slices.Reverse(pats)
			compareFind(t, s, pats)
			for k := range api.MaxPat + 2 {
				compareFronts(t, pats, s[:k])
				compareFronts(t, pats, s[n-k:])
			}
		}
	}
}

// Only the patterns are limited: a longer front begins none of them.
func TestLongFront(t *testing.T) { // P1, P12
	longest := strings.Repeat("a", api.MaxPat)
	for _, n := range []int{api.MaxPat + 1, api.MaxWord + 1, 1 << 20} {
		if l, e := Fronts([]string{longest, "a"}, strings.Repeat("a", n)); e != api.OK || len(l) != 0 {
			t.Error(n, l, e)
		}
	}
}

func TestEveryByte(t *testing.T) { // P1, P11, P12
	for b := range 256 {
		one := string([]byte{byte(b)})
		other := string([]byte{byte(b + 1)})
		pats := []string{other, one + other, one + one, one}
		compareFind(t, one+one+other+one, pats)
		compareFronts(t, pats, one)
		compareFronts(t, pats, "")
	}
}

func TestArgumentsAreLeft(t *testing.T) { // P2
	memory := []string{"b", "ab", "a", "x", "y"}
	pats := memory[:3]
	compareFind(t, "abab", pats)
	compareFronts(t, pats, "")
	if e := Check(pats); e != api.OK {
		t.Error(e)
	}
	if !slices.Equal(memory, []string{"b", "ab", "a", "x", "y"}) {
		t.Errorf("the patterns became %q", memory)
	}
}

func TestResultsAreNewMemory(t *testing.T) { // P2
	s := strings.Repeat("abaab", 9)
	pats := []string{"ba", "a", "ab", "aab"}
	var hits [][]api.Hit
	var fronts [][]int
	for range 2 {
		l, _ := Find(s, pats)
		hits = append(hits, l)
		k, _ := Fronts(pats, "a")
		fronts = append(fronts, k)
	}
	if !sample.Apart(hits...) || !sample.Apart(fronts...) {
		t.Error("results share memory")
	}
	for i := range hits {
		clear(hits[i][:cap(hits[i])])
		clear(fronts[i][:cap(fronts[i])])
	}
	compareFind(t, s, pats)
	compareFronts(t, pats, "a")
}
