package phrase

import (
	"math"
	"slices"
	"strings"
	"testing"

	"quillward/api"
	"quillward/sample"
)

// The slow functions follow the document's words, so that the fast ones can be
// compared with them. They use nothing of the package.

// slowPut looks for the longest phrase among the strings of all of them.
func slowPut(s string) ([]api.Phrase, string) {
	var l []api.Phrase
	texts := []string{""}
	for {
		back := 0
		for number, w := range texts {
			if strings.HasPrefix(s, w) && len(w) > len(texts[back]) {
				back = number
			}
		}
		w := texts[back]
		if w == s {
			return l, s
		}
		l = append(l, api.Phrase{Back: back, B: s[len(w)]})
		texts = append(texts, s[:len(w)+1])
		s = s[len(w)+1:]
	}
}

// slowText expects that no phrase refers to itself or to a later one.
func slowText(l []api.Phrase, number int) []byte {
	if number == 0 {
		return nil
	}
	p := l[number-1]
	return append(slowText(l, p.Back), p.B)
}

func slowGet(l []api.Phrase, rest string) (string, api.Errno) {
	if len(rest) > api.MaxWord || len(l) > api.MaxWord {
		return "", api.ErrLarge
	}
	var text []byte
	for i, p := range l {
		if p.Back < 0 || p.Back > i {
			return "", api.ErrArg
		}
		text = append(text, slowText(l, i+1)...)
		if len(text) > api.MaxWord {
			return "", api.ErrLarge
		}
	}
	if len(text)+len(rest) > api.MaxWord {
		return "", api.ErrLarge
	}
	return string(text) + rest, api.OK
}

func wantPut(t *testing.T, s string, want []api.Phrase, wantRest string) {
	t.Helper()
	if l, rest, e := Put(s); e != api.OK || !slices.Equal(l, want) || rest != wantRest {
		t.Errorf("Put(%q) = %v, %q, %v; want %v, %q", s, l, rest, e, want, wantRest)
	}
}

func wantGet(t *testing.T, l []api.Phrase, rest, want string) {
	t.Helper()
	if s, e := Get(l, rest); e != api.OK || s != want {
		t.Errorf("Get(%v, %q) = %q, %v; want %q", l, rest, s, e, want)
	}
}

func expectPutLarge(t *testing.T, s string) {
	t.Helper()
	if l, rest, e := Put(s); e != api.ErrLarge || len(l) != 0 || rest != "" {
		t.Errorf("Put of %d bytes = %v, %q, %v", len(s), l, rest, e)
	}
}

func expectGetError(t *testing.T, l []api.Phrase, rest string, want api.Errno) {
	t.Helper()
	if s, e := Get(l, rest); e != want || s != "" {
		t.Errorf("Get(%v, %.20q) of %d phrases and %d bytes = %q, %v; want %v",
			l[:min(len(l), 25)], rest, len(l), len(rest), s, e, want)
	}
}

// compareRoundTrip checks Put of s, and that Get inverts it.
func compareRoundTrip(t *testing.T, s string) {
	t.Helper()
	l, rest := slowPut(s)
	wantPut(t, s, l, rest)
	wantGet(t, l, rest, s)
}

func compareGet(t *testing.T, l []api.Phrase, rest string) {
	t.Helper()
	want, wantE := slowGet(l, rest)
	if wantE == api.OK {
		wantGet(t, l, rest, want)
	} else {
		expectGetError(t, l, rest, wantE)
	}
}

// phrases returns a phrase for each byte, and the number that it refers to.
func phrases(bytes string, backs ...int) []api.Phrase {
	var l []api.Phrase
	for i, back := range backs {
		l = append(l, api.Phrase{Back: back, B: bytes[i]})
	}
	return l
}

// chain returns n phrases, each with a string one byte longer than that of the
// one before. The strings of 19 such phrases have 190 bytes together.
func chain(n int) []api.Phrase {
	var l []api.Phrase
	for k := range n {
		l = append(l, api.Phrase{Back: k, B: 'a'})
	}
	return l
}

// flat returns n phrases with one byte each.
func flat(n int) []api.Phrase {
	return slices.Repeat([]api.Phrase{{B: 'a'}}, n)
}

// and appends without using spare capacity.
func and(l []api.Phrase, more ...api.Phrase) []api.Phrase {
	return append(slices.Clip(l), more...)
}

// outside returns numbers of no phrase before the phrase at index i.
func outside(i int) []int {
	return []int{
		i + 1, i + 2, -1, -i - 1, i + 256, i + 1<<32, i - 1<<32,
		math.MaxInt32, math.MinInt32, math.MaxInt, math.MinInt,
	}
}

// shortLists returns every list of at most n phrases with a few bytes and
// numbers, some of them out of range.
func shortLists(n int) [][]api.Phrase {
	lists := [][]api.Phrase{nil}
	for from := 0; n > 0; n-- {
		to := len(lists)
		for _, l := range lists[from:to] {
			for back := -1; back <= 5; back++ {
				lists = append(lists, and(l, api.Phrase{Back: back, B: 'a'}), and(l, api.Phrase{Back: back, B: 0xff}))
			}
		}
		from = to
	}
	return lists
}

func TestPut(t *testing.T) { // P43
	tests := []struct {
		s    string
		want []api.Phrase
		rest string
	}{
		{"", nil, ""},
		{"a", phrases("a", 0), ""},
		{"ab", phrases("ab", 0, 0), ""},
		{"aab", phrases("ab", 0, 1), ""},
		// What remains is the string of a phrase, and not extended any more,
		// although a shorter phrase with another byte would make it up.
		{"aa", phrases("a", 0), "a"},
		{"aabab", phrases("ab", 0, 1), "ab"},
		{"aaaaa", phrases("aa", 0, 1), "aa"},
		{"aaaaaa", phrases("aaa", 0, 1, 2), ""},
		{"abab", phrases("abb", 0, 0, 1), ""},
		{"ababab", phrases("abb", 0, 0, 1), "ab"},
		{"abababa", phrases("abba", 0, 0, 1, 3), ""},
		// The longest phrase, and not the first or the last one.
		{"aababcabcd", phrases("abcd", 0, 1, 2, 3), ""},
		{"aabacabd", phrases("abcd", 0, 1, 1, 2), ""},
		// Only whole phrases count: ba is in the text before, but no phrase.
		{"bacba", phrases("baca", 0, 0, 0, 1), ""},
		{"banana", phrases("bann", 0, 0, 0, 2), "a"},
		{"mississippi", phrases("misispp", 0, 0, 0, 3, 3, 2, 0), "i"},
		{"\x00\x00\x00", phrases("\x00\x00", 0, 1), ""},
		{"\x80\xff\x80\xff\x80", phrases("\x80\xff\xff", 0, 0, 1), "\x80"},
		// Bytes count, not characters.
		{"éé", phrases("\xc3\xa9\xa9", 0, 0, 1), ""},
		// As many bytes as there may be.
		{strings.Repeat("a", 190), chain(19), ""},
		{strings.Repeat("a", api.MaxWord), chain(19), strings.Repeat("a", 10)},
	}
	for _, c := range tests {
		wantPut(t, c.s, c.want, c.rest)
		wantGet(t, c.want, c.rest, c.s)
	}
}

func TestGet(t *testing.T) { // P44
	tests := []struct {
		l    []api.Phrase
		rest string
		want string
	}{
		{nil, "", ""},
		{[]api.Phrase{}, "", ""},
		{phrases("a", 0), "", "a"},
		{phrases("ab", 0, 1), "", "aab"},
		{phrases("abcde", 0, 1, 2, 0, 2), "", "aababcdabe"},
		{phrases("xyzzx", 0, 0, 1, 2, 4), "", "xyxzyzyzx"},
		{phrases("ab", 0, 1), "ab", "aabab"},
		// Phrases and a rest that Put would not return.
		{nil, "xyz", "xyz"},
		{nil, strings.Repeat("ab", api.MaxWord/2), strings.Repeat("ab", api.MaxWord/2)},
		{phrases("aa", 0, 0), "", "aa"},
		{phrases("aaaa", 0, 1, 1, 3), "", "aaaaaaaa"},
		{phrases("a", 0), "a", "aa"},
		{phrases("ab", 0, 1), "zz", "aabzz"},
		{phrases("ab", 0, 1), "aab", "aabaab"},
		{phrases("\x80\xff\x00", 0, 1, 2), "\x00\xff", "\x80\x80\xff\x80\xff\x00\x00\xff"},
		// As many phrases, and as many bytes, as there may be.
		{flat(api.MaxWord), "", strings.Repeat("a", api.MaxWord)},
		{flat(api.MaxWord - 1), "b", strings.Repeat("a", api.MaxWord-1) + "b"},
		{chain(19), strings.Repeat("b", 10), strings.Repeat("a", 190) + strings.Repeat("b", 10)},
		{and(chain(19), api.Phrase{Back: 9, B: 'b'}), "", strings.Repeat("a", 199) + "b"},
	}
	for _, c := range tests {
		wantGet(t, c.l, c.rest, c.want)
	}
}

func TestGetOutOfRange(t *testing.T) { // P1, P2, P44
	for _, l := range [][]api.Phrase{nil, chain(1), chain(2), chain(19), flat(2), flat(25)} {
		for _, back := range outside(len(l)) {
			bad := and(l, api.Phrase{Back: back, B: 'a'})
			expectGetError(t, bad, "", api.ErrArg)
			expectGetError(t, bad, "a", api.ErrArg)
			// The phrases come before the length with the rest.
			expectGetError(t, bad, strings.Repeat("b", api.MaxWord), api.ErrArg)
			// A later phrase does not matter, even if it makes the number one
			// of an earlier phrase, or is out of range or too large itself.
			expectGetError(t, and(bad, flat(3)...), "", api.ErrArg)
			expectGetError(t, and(bad, api.Phrase{Back: -1}), "", api.ErrArg)
			expectGetError(t, and(bad, api.Phrase{Back: len(l)}), "", api.ErrArg)
		}
		// The last number that is in range.
		compareGet(t, and(l, api.Phrase{Back: len(l), B: 'b'}), "")
	}
}

func TestGetTooLong(t *testing.T) { // P1, P2, P44
	tests := []struct {
		l    []api.Phrase
		rest string
	}{
		{chain(20), ""},
		{chain(21), ""},
		{chain(api.MaxWord), ""},
		{and(chain(19), api.Phrase{Back: 10, B: 'b'}), ""},
		{and(flat(api.MaxWord-1), api.Phrase{Back: 1, B: 'b'}), ""},
		// Only with the rest.
		{chain(19), strings.Repeat("b", 11)},
		{and(chain(19), api.Phrase{Back: 9, B: 'b'}), "b"},
		{flat(api.MaxWord), "b"},
		{flat(1), strings.Repeat("b", api.MaxWord)},
		{flat(api.MaxWord), strings.Repeat("b", api.MaxWord)},
	}
	for _, c := range tests {
		expectGetError(t, c.l, c.rest, api.ErrLarge)
	}
	for n := range api.MaxWord + 1 {
		rest := strings.Repeat("b", api.MaxWord-n)
		wantGet(t, flat(n), rest, strings.Repeat("a", n)+rest)
		expectGetError(t, flat(n), rest+"b", api.ErrLarge)
	}
}

func TestGetTooMany(t *testing.T) { // P1, P2, P44
	for _, n := range []int{api.MaxWord + 1, api.MaxWord + 2, 1 << 16, 1 << 20} {
		large := strings.Repeat("b", n)
		expectGetError(t, flat(n), "", api.ErrLarge)
		expectGetError(t, nil, large, api.ErrLarge)
		// Both numbers come before the phrases.
		for _, back := range outside(0) {
			bad := api.Phrase{Back: back}
			expectGetError(t, and([]api.Phrase{bad}, flat(n-1)...), "", api.ErrLarge)
			expectGetError(t, []api.Phrase{bad}, large, api.ErrLarge)
		}
	}
	// Up to MaxWord phrases are looked at, though.
	bad := and([]api.Phrase{{Back: 1}}, flat(api.MaxWord-1)...)
	expectGetError(t, bad, "", api.ErrArg)
	expectGetError(t, bad, strings.Repeat("b", api.MaxWord), api.ErrArg)
	expectGetError(t, nil, strings.Repeat("é", api.MaxWord/2+1), api.ErrLarge)
}

func TestGetErrorOrder(t *testing.T) { // P1, P2, P44
	for _, back := range outside(20) {
		// The first phrase with an error counts, and its number before its
		// length.
		expectGetError(t, and(chain(20), api.Phrase{Back: back}), "", api.ErrLarge)
		expectGetError(t, and(flat(20), api.Phrase{Back: back}), "", api.ErrArg)
	}
	for _, back := range outside(19) {
		bad := api.Phrase{Back: back, B: 'a'}
		expectGetError(t, and(and(chain(19), bad), chain(19)...), "", api.ErrArg)
		expectGetError(t, and(chain(19), bad), strings.Repeat("b", 11), api.ErrArg)
	}
}

func TestAllShortWords(t *testing.T) { // P1, P43, P44
	for _, s := range slices.Concat(
		sample.Words("a", 40),
		sample.Words("ab", 12),
		sample.Words("\x00\x80\xff", 8),
		sample.Words("abcd", 6),
	) {
		compareRoundTrip(t, s)
	}
}

func TestLongWords(t *testing.T) { // P1, P43, P44
	for n := range api.MaxWord + 1 {
		compareRoundTrip(t, strings.Repeat("a", n))
		compareRoundTrip(t, strings.Repeat("ab", n)[:n])
		compareRoundTrip(t, strings.Repeat("mississippi", n)[:n])
		compareRoundTrip(t, sample.Fibonacci(n))
		compareRoundTrip(t, sample.Ramp(n, 1, n))
		compareRoundTrip(t, sample.Ramp(n, 64, n)+sample.Ramp(n, 3, api.MaxWord-n))
		for signs := 2; signs <= 16; signs *= 2 {
			compareRoundTrip(t, sample.ScatteredWord(n+signs, n, signs))
		}
	}
}

func TestAllShortLists(t *testing.T) { // P1, P2, P44
	for _, l := range shortLists(4) {
		compareGet(t, l, "")
		compareGet(t, l, "xa")
	}
}

func TestLongLists(t *testing.T) { // P1, P2, P44
	seen := map[api.Errno]int{}
	for seed := range 3000 {
		n := seed % 90
		numbers := sample.Scattered(seed, n, 0, 1<<20)
		for i, number := range numbers {
			numbers[i] %= i + 1
			// Rarely, a phrase refers to itself.
			if number%97 == 0 {
				numbers[i] = i + 1
			}
		}
		l := phrases(sample.ScatteredWord(seed+1, n, 256), numbers...)
		rest := sample.ScatteredWord(seed+2, seed%37, 256)
		_, e := slowGet(l, rest)
		seen[e]++
		compareGet(t, l, rest)
	}
	if seen[api.OK] < 100 || seen[api.ErrArg] < 100 || seen[api.ErrLarge] < 100 {
		t.Error("the lists do not show every case:", seen)
	}
}

func TestEveryByte(t *testing.T) { // P1, P43, P44
	for b := range 256 {
		one, other := sample.Ramp(b, 1, 1), sample.Ramp(b+1, 1, 1)
		wantPut(t, one, phrases(one, 0), "")
		wantGet(t, phrases(one+one, 0, 1), other, one+one+one+other)
		compareRoundTrip(t, one+one+other+one+other)
		// Bytes that differ in one bit only are not the same.
		for bit := range 8 {
			compareRoundTrip(t, one+sample.Ramp(b^1<<bit, 1, 1)+one+one)
		}
	}
}

func TestPutTooLarge(t *testing.T) { // P1, P2, P43
	for _, n := range []int{api.MaxWord + 1, api.MaxWord + 2, 256, 65536, 1 << 20} {
		expectPutLarge(t, strings.Repeat("a", n))
		expectPutLarge(t, strings.Repeat("ab", n)[:n])
	}
	expectPutLarge(t, strings.Repeat("é", api.MaxWord/2+1))
}

func TestArgumentsAreLeft(t *testing.T) { // P2
	memory := phrases("abcd", 0, 1, 9, 7)
	before := slices.Clone(memory)
	wantGet(t, memory[:2], "ab", "aabab")
	expectGetError(t, memory[:3], "ab", api.ErrArg)
	if !slices.Equal(memory, before) {
		t.Errorf("the phrases became %v", memory)
	}
}

func TestResultsAreNewMemory(t *testing.T) { // P2
	words := []string{"aabab", "", "banana", "aabab", strings.Repeat("a", api.MaxWord)}
	var results [][]api.Phrase
	for _, s := range words {
		l, _, _ := Put(s)
		results = append(results, l)
	}
	for i, l := range results {
		if want, _ := slowPut(words[i]); !slices.Equal(l, want) {
			t.Errorf("result %d is %v after later calls; want %v", i, l, want)
		}
	}
	if !sample.Apart(results...) {
		t.Error("results share memory")
	}
	for _, l := range results {
		clear(l[:cap(l)])
	}
	for _, s := range words {
		compareRoundTrip(t, s)
	}
}

func TestNoStateBetweenCalls(t *testing.T) { // P2
	for _, s := range []string{"abab", "", "aaaa", "abab", "b", "abab"} {
		compareRoundTrip(t, s)
		expectPutLarge(t, strings.Repeat("a", api.MaxWord+1))
		expectGetError(t, chain(20), "", api.ErrLarge)
		expectGetError(t, []api.Phrase{{B: 'a'}, {Back: 2}}, s, api.ErrArg)
		compareRoundTrip(t, s)
	}
}
