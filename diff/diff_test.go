package diff

import (
	"slices"
	"strings"
	"testing"

	"quillward/api"
	"quillward/edit"
	"quillward/sample"
)

// The slow functions follow the document's words, so that the fast ones can be
// compared with them. They use neither the package nor package same.

// outcomes returns what the scripts that insert nothing but the inks make of s,
// if it has at most n bytes, each with the least number of bytes that a script
// for it deletes and inserts. A script may begin at 0 only if free is true.
func outcomes(s string, inks []string, n int, free bool) map[string]int {
	found := map[string]int{}
	if s == "" {
		found[""] = 0
	} else if n > 0 {
		for rest, cost := range outcomes(s[1:], inks, n-1, true) {
			note(found, s[:1]+rest, cost)
		}
	}
	if !free {
		return found
	}
	for del := range len(s) + 1 {
		for rest, cost := range outcomes(s[del:], inks, n, false) {
			for _, ink := range inks {
				if len(ink)+len(rest) <= n {
					note(found, ink+rest, del+len(ink)+cost)
				}
			}
		}
	}
	return found
}

// note keeps the least cost of a word.
func note(found map[string]int, w string, cost int) {
	if before, known := found[w]; !known || cost < before {
		found[w] = cost
	}
}

// slowCost is for words that have too many scripts to try them all: it adds the
// bytes of s and t to the front parts, of which it knows the costs.
func slowCost(s, t string) int {
	var costs [api.MaxWord + 1][api.MaxWord + 1]int
	for i := range len(s) + 1 {
		for j := range len(t) + 1 {
			if i == 0 || j == 0 {
				costs[i][j] = i + j
				continue
			}
			costs[i][j] = 1 + min(costs[i-1][j], costs[i][j-1])
			if s[i-1] == t[j-1] {
				costs[i][j] = min(costs[i][j], costs[i-1][j-1])
			}
		}
	}
	return costs[len(s)][len(t)]
}

// bytesOf returns how many bytes a script deletes and inserts.
func bytesOf(l []api.Edit) int {
	n := 0
	for _, x := range l {
		n += x.Del + len(x.Ins)
	}
	return n
}

func wantCost(t *testing.T, s, r string, want int) {
	t.Helper()
	if n, e := Cost(s, r); e != api.OK || n != want {
		t.Errorf("Cost(%q, %q) = %v, %v; want %v", s, r, n, e, want)
	}
}

// wantMake is for words for which there is only one script, and for errors.
func wantMake(t *testing.T, s, r string, want []api.Edit, wantError api.Errno) {
	t.Helper()
	if l, e := Make(s, r); e != wantError || !slices.Equal(l, want) {
		t.Errorf("Make(%q, %q) = %#v, %v; want %#v, %v", s, r, l, e, want, wantError)
	}
}

// wantScript accepts every script that makes r of s at the cost.
func wantScript(t *testing.T, s, r string, cost int) {
	t.Helper()
	if cost > api.MaxEdits {
		wantMake(t, s, r, nil, api.ErrFull)
		return
	}
	l, e := Make(s, r)
	if e != api.OK || bytesOf(l) != cost {
		t.Errorf("Make(%q, %q) = %#v, %v; want %v bytes", s, r, l, e, cost)
	}
	if made, e := edit.Apply(s, l); e != api.OK || made != r {
		t.Errorf("Make(%q, %q) = %#v, which makes %q, %v", s, r, l, made, e)
	}
}

// wantBoth checks both functions.
func wantBoth(t *testing.T, s, r string, cost int) {
	t.Helper()
	wantCost(t, s, r, cost)
	wantScript(t, s, r, cost)
}

// compare checks both functions for s and r, which may be long, and for r and s.
func compare(t *testing.T, s, r string) {
	t.Helper()
	cost := slowCost(s, r)
	wantBoth(t, s, r, cost)
	wantBoth(t, r, s, cost)
}

func expectTooLarge(t *testing.T, s, r string) {
	t.Helper()
	if n, e := Cost(s, r); e != api.ErrLarge || n != 0 {
		t.Errorf("Cost of %d and %d bytes = %v, %v", len(s), len(r), n, e)
	}
	if l, e := Make(s, r); e != api.ErrLarge || len(l) != 0 {
		t.Errorf("Make of %d and %d bytes = %#v, %v", len(s), len(r), l, e)
	}
}

// changed returns s with k bytes deleted or inserted in no particular order,
// others for each seed.
func changed(seed int, s string, k, signs int) string {
	for numbers := sample.Scattered(seed, 3*k, 0, 1<<20); len(numbers) > 0; numbers = numbers[3:] {
		at := numbers[0] % (len(s) + 1)
		if numbers[1]%2 == 0 && at < len(s) {
			s = s[:at] + s[at+1:]
		} else {
			s = s[:at] + sample.Ramp(numbers[2]%signs, 1, 1) + s[at:]
		}
	}
	return s
}

// holes returns the ramp of n bytes without every other byte, k times.
func holes(n, k int) string {
	s := []byte(sample.Ramp(0, 1, n))
	for i := range k {
		s = slices.Delete(s, i, i+1)
	}
	return string(s)
}

func TestMake(t *testing.T) { // P60
	tests := []struct {
		s, t string
		want []api.Edit
	}{
		{"", "", nil},
		{"a", "a", nil},
		{"ab", "ab", nil},
		{"ab", "b", []api.Edit{{Del: 1}}},
		{"ab", "a", []api.Edit{{At: 1, Del: 1}}},
		{"b", "ab", []api.Edit{{Ins: "a"}}},
		{"a", "ab", []api.Edit{{At: 1, Ins: "b"}}},
		{"", "abc", []api.Edit{{Ins: "abc"}}},
		{"abc", "", []api.Edit{{Del: 3}}},
		{"abc", "xyz", []api.Edit{{Del: 3, Ins: "xyz"}}},
		{"abc", "axc", []api.Edit{{At: 1, Del: 1, Ins: "x"}}},
		{"abcde", "xbcdy", []api.Edit{{Del: 1, Ins: "x"}, {At: 4, Del: 1, Ins: "y"}}},
		{"abc", "xaybzcw", []api.Edit{{Ins: "x"}, {At: 1, Ins: "y"}, {At: 2, Ins: "z"}, {At: 3, Ins: "w"}}},
		{"xaybzcw", "abc", []api.Edit{{Del: 1}, {At: 2, Del: 1}, {At: 4, Del: 1}, {At: 6, Del: 1}}},
		{"abcdef", "xyzabew", []api.Edit{{Ins: "xyz"}, {At: 2, Del: 2}, {At: 5, Del: 1, Ins: "w"}}},
		// The byte that both begin with is worth less than the two at the end.
		{"xab", "abx", []api.Edit{{Del: 1}, {At: 3, Ins: "x"}}},
		{"hello", "help", []api.Edit{{At: 3, Del: 2, Ins: "p"}}},
		{"\x00a\xff", "\x00\xff\x80", []api.Edit{{At: 1, Del: 1}, {At: 3, Ins: "\x80"}}},
		// Bytes count, not characters.
		{"é", "è", []api.Edit{{At: 1, Del: 1, Ins: "\xa8"}}},
	}
	for _, c := range tests {
		wantMake(t, c.s, c.t, c.want, api.OK)
		wantBoth(t, c.s, c.t, bytesOf(c.want))
	}
}

func TestCost(t *testing.T) { // P61
	tests := []struct {
		s, t string
		want int
	}{
		{"", "", 0},
		{"abc", "abc", 0},
		{"abc", "axc", 2},
		{"abcabba", "cbabac", 5},
		{"kitten", "sitting", 5},
		{"abcb", "bdcb", 2},
		{"aaa", "aa", 1},
		{"abab", "baba", 2},
		{"abc", "cba", 4},
		{"abc", "", 3},
		{"abc", "def", 6},
		{"ab", "ba", 2},
		{"banana", "ananas", 2},
	}
	for _, c := range tests {
		wantBoth(t, c.s, c.t, c.want)
		wantBoth(t, c.t, c.s, c.want)
	}
	// The cost has no limit of its own.
	const n = api.MaxWord
	wantCost(t, strings.Repeat("a", n), strings.Repeat("b", n), 2*n)
	wantCost(t, strings.Repeat("a", n), "", n)
	wantCost(t, sample.Ramp(0, 1, n), sample.Ramp(n-1, -1, n), 2*n-2)
}

func TestFull(t *testing.T) { // P2, P60, P61
	for k := range api.MaxWord + 1 {
		s := strings.Repeat("x", k)
		wantBoth(t, "", s, k)
		wantBoth(t, s, "", k)
		// Deleted and inserted bytes count together.
		wantBoth(t, s, strings.Repeat("y", k), 2*k)
		wantBoth(t, s, strings.Repeat("y", k/2), k+k/2)
	}
	x, y := strings.Repeat("x", 21), strings.Repeat("y", 21)
	wantMake(t, "", x[:20], []api.Edit{{Ins: x[:20]}}, api.OK)
	wantMake(t, "", x, nil, api.ErrFull)
	wantMake(t, x[:20], "", []api.Edit{{Del: 20}}, api.OK)
	wantMake(t, x, "", nil, api.ErrFull)
	wantMake(t, x[:10], y[:10], []api.Edit{{Del: 10, Ins: y[:10]}}, api.OK)
	wantMake(t, x[:11], y[:10], nil, api.ErrFull)
	wantMake(t, x[:10], y[:11], nil, api.ErrFull)
}

func TestNumberOfEdits(t *testing.T) { // P60, P61
	for _, n := range []int{2 * api.MaxEdits, 2*api.MaxEdits + 1, 100, api.MaxWord} {
		ramp := sample.Ramp(0, 1, n)
		for k := range api.MaxEdits + 1 {
			var out, in []api.Edit
			for i := range k {
				out = append(out, api.Edit{At: 2 * i, Del: 1})
				in = append(in, api.Edit{At: i, Ins: ramp[2*i : 2*i+1]})
			}
			wantMake(t, ramp, holes(n, k), out, api.OK)
			wantMake(t, holes(n, k), ramp, in, api.OK)
			wantCost(t, ramp, holes(n, k), k)
		}
	}
	wantBoth(t, sample.Ramp(0, 1, 42), holes(42, 21), 21)
	wantBoth(t, holes(42, 21), sample.Ramp(0, 1, 42), 21)
}

func TestAllShortWords(t *testing.T) { // P1, P60, P61
	for _, c := range []struct {
		signs string
		n     int
	}{{"ab", 6}, {"abc", 4}, {"\x00\x7f\x80\xff", 3}} {
		words := sample.Words(c.signs, c.n)
		for _, s := range words {
			costs := outcomes(s, words, c.n, true)
			for _, r := range words {
				wantBoth(t, s, r, costs[r])
				// This shows that the two slow ways agree.
				if n := slowCost(s, r); n != costs[r] {
					t.Fatalf("the cost from %q to %q is %v or %v", s, r, n, costs[r])
				}
			}
		}
	}
}

func TestLongWords(t *testing.T) { // P1, P60, P61
	for _, sizes := range [][2]int{
		{api.MaxWord, api.MaxWord}, {api.MaxWord, 190}, {64, api.MaxWord}, {37, 41}, {12, 11}, {1, api.MaxWord}, {0, 20}, {0, 21},
	} {
		for _, s := range sample.LongWords(sizes[0]) {
			for _, r := range sample.LongWords(sizes[1]) {
				compare(t, s, r)
			}
		}
	}
}

func TestLongWordsWithLittleChanged(t *testing.T) { // P1, P60, P61
	seen := map[int]int{}
	for seed := range 50 {
		for i, s := range sample.LongWords(170 - seed) {
			r := changed(11*seed+i, s, 5+seed%20, 1+seed%7)
			compare(t, s, r)
			seen[slowCost(s, r)]++
		}
	}
	if seen[api.MaxEdits-1] < 5 || seen[api.MaxEdits] < 5 || seen[api.MaxEdits+1] < 5 {
		t.Errorf("too few words are as far apart as they may be: %v", seen)
	}
}

func TestEveryByte(t *testing.T) { // P60, P61
	for b := range 256 {
		one := sample.Ramp(b, 1, 1)
		wantMake(t, one, "", []api.Edit{{Del: 1}}, api.OK)
		wantMake(t, "", one, []api.Edit{{Ins: one}}, api.OK)
		wantMake(t, one, one, nil, api.OK)
		// Bytes that differ in one bit only are not the same.
		for bit := range 8 {
			other := sample.Ramp(b^1<<bit, 1, 1)
			wantMake(t, one+one+one, one+other+one, []api.Edit{{At: 1, Del: 1, Ins: other}}, api.OK)
			wantCost(t, one, other, 2)
			compare(t, one+other+one, other+one+other)
		}
	}
}

// Most of these words are also too far apart, which counts only after that.
func TestTooLarge(t *testing.T) { // P1, P2, P60, P61
	full := strings.Repeat("a", api.MaxWord)
	for _, n := range []int{api.MaxWord + 1, api.MaxWord + 2, 256, 65536, 1 << 20} {
		large := strings.Repeat("a", n)
		for _, s := range []string{"", "a", "b", full, large, large[1:] + "b", strings.Repeat("b", n)} {
			expectTooLarge(t, s, large)
			expectTooLarge(t, large, s)
		}
	}
	wantBoth(t, full, full, 0)
	wantBoth(t, full, full[1:]+"b", 2)
	wantBoth(t, full[20:], full, 20)
	wantBoth(t, full[21:], full, 21)
}

func TestResultsAreNewMemory(t *testing.T) { // P2
	words := []string{"abab", "baba", "", "abab", strings.Repeat("ab", 12), strings.Repeat("ab", 12) + "c"}
	var results [][]api.Edit
	for _, s := range words {
		for _, r := range words {
			l, _ := Make(s, r)
			results = append(results, l)
		}
	}
	if !sample.Apart(results...) {
		t.Error("results share memory")
	}
	for _, l := range results {
		clear(l[:cap(l)])
	}
	for _, s := range words {
		for _, r := range words {
			compare(t, s, r)
		}
	}
}

// Which script it is may be chosen, but not anew each time.
func TestSameScriptAgain(t *testing.T) { // P2, P60
	words := slices.Concat(sample.Words("ab", 4), sample.LongWords(15))
	type pair struct{ s, r string }
	first := map[pair][]api.Edit{}
	for range 2 {
		for _, s := range words {
			for _, r := range words {
				l, _ := Make(s, r)
				before, known := first[pair{s, r}]
				if !known {
					first[pair{s, r}] = l
				} else if !slices.Equal(l, before) {
					t.Errorf("Make(%q, %q) = %#v; before, %#v", s, r, l, before)
				}
			}
		}
		expectTooLarge(t, strings.Repeat("a", api.MaxWord+1), "a")
	}
}
