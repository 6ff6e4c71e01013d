package pack

import (
	"math"
	"slices"
	"strings"
	"testing"

	"quillward/api"
	"quillward/code"
	"quillward/sample"
)

// The slow functions follow the document's words, so that the fast ones can be
// compared with them. They use nothing of the package.

func slowPut(l []string, text []int) string {
	s := ""
	for _, symbol := range text {
		s += l[symbol]
	}
	return s
}

// readings returns, for each string with at most n bytes, all sequences of
// symbols whose code words make it up.
func readings(l []string, n int) map[string][][]int {
	found := map[string][][]int{}
	open := [][]int{nil}
	for len(open) > 0 {
		text := open[0]
		open = open[1:]
		s := slowPut(l, text)
		found[s] = append(found[s], text)
		for symbol, w := range l {
			if len(s)+len(w) <= n {
				open = append(open, append(slices.Clone(text), symbol))
			}
		}
	}
	return found
}

// slowWays takes each code word with which s begins, and counts the ways of the
// rest. It takes long strings, unlike readings.
func slowWays(l []string, s string) int {
	known := map[string]int{"": 1}
	var count func(rest string) int
	count = func(rest string) int {
		if n, there := known[rest]; there {
			return n
		}
		n := 0
		for _, w := range l {
			if after, begins := strings.CutPrefix(rest, w); begins {
				n += count(after)
			}
		}
		known[rest] = n
		return n
	}
	return count(s)
}

func wantPut(t *testing.T, l []string, text []int, want string) {
	t.Helper()
	if s, e := Put(l, text); e != api.OK || s != want {
		t.Errorf("Put(%q, %v) = %q, %v; want %q", l, text, s, e, want)
	}
}

func wantGet(t *testing.T, l []string, s string, want []int) {
	t.Helper()
	if text, e := Get(l, s); e != api.OK || !slices.Equal(text, want) {
		t.Errorf("Get(%q, %.50q) = %v, %v; want %v", l, s, text, e, want)
	}
}

func wantWays(t *testing.T, l []string, s string, want int) {
	t.Helper()
	if n, e := Ways(l, s); e != api.OK || n != want {
		t.Errorf("Ways(%q, %q) = %v, %v; want %v", l, s, n, e, want)
	}
}

func expectPutError(t *testing.T, l []string, text []int, want api.Errno) {
	t.Helper()
	if s, e := Put(l, text); e != want || s != "" {
		t.Errorf("Put(%.20q) of %d symbols = %q, %v; want %v", l, len(text), s, e, want)
	}
}

func expectGetError(t *testing.T, l []string, s string, want api.Errno) {
	t.Helper()
	if text, e := Get(l, s); e != want || len(text) != 0 {
		t.Errorf("Get(%.20q, %.50q) = %v, %v; want %v", l, s, text, e, want)
	}
}

func expectWaysError(t *testing.T, l []string, s string, want api.Errno) {
	t.Helper()
	if n, e := Ways(l, s); e != want || n != 0 {
		t.Errorf("Ways(%.20q, %.50q) = %v, %v; want %v", l, s, n, e, want)
	}
}

// expectCodeError checks that each function reports the code's error, whatever
// its other argument is.
func expectCodeError(t *testing.T, l []string, want api.Errno) {
	t.Helper()
	for _, text := range [][]int{nil, {0}, {-1}, {len(l)}, repeat(0, 200), repeat(0, 201), repeat(-1, 201)} {
		expectPutError(t, l, text, want)
	}
	for _, s := range []string{"", "0", "x", strings.Repeat("0", 41), strings.Repeat("0", 4097)} {
		expectGetError(t, l, s, want)
		expectWaysError(t, l, s, want)
	}
}

// compareRoundTrip checks Put of the text, and that Get inverts it.
func compareRoundTrip(t *testing.T, l []string, text []int) {
	t.Helper()
	s := slowPut(l, text)
	wantPut(t, l, text, s)
	wantGet(t, l, s, text)
}

func repeat(symbol, n int) []int {
	return slices.Repeat([]int{symbol}, n)
}

// zeros returns the words 0, 00, 000 and so on, up to n bits.
func zeros(n int) []string {
	var l []string
	for k := range n {
		l = append(l, strings.Repeat("0", k+1))
	}
	return l
}

// longCodes returns prefix-free codes with up to MaxCodes words.
func longCodes(t *testing.T) [][]string {
	codes := [][]string{{"0"}, {"1", "0"}, {"0", "10", "11"}, {"11", "0", "10"}, {"01", "1"}}
	codes = append(codes, []string{strings.Repeat("0", api.MaxBits)}, sample.Bits(api.MaxCodes))
	for _, lens := range sample.Lengths() {
		l, e := code.Make(lens)
		if e != api.OK {
			t.Fatal(lens, e)
		}
		codes = append(codes, l)
	}
	return codes
}

func TestPut(t *testing.T) { // P40
	l := []string{"0", "10", "11"}
	longest := strings.Repeat("01", api.MaxBits/2)
	tests := []struct {
		l    []string
		text []int
		want string
	}{
		{nil, nil, ""},
		{[]string{}, []int{}, ""},
		{l, nil, ""},
		{l, []int{}, ""},
		{l, []int{0}, "0"},
		{l, []int{1}, "10"},
		{l, []int{2}, "11"},
		{l, []int{1, 0, 2}, "10011"},
		{l, []int{2, 2, 0, 0}, "111100"},
		// The code need be neither prefix-free nor uniquely decodable.
		{[]string{"0", "01", "10"}, []int{0, 2}, "010"},
		{[]string{"0", "01", "10"}, []int{1, 0}, "010"},
		{[]string{"0", "00"}, []int{1, 0, 1}, "00000"},
		{[]string{"1", "11"}, []int{1}, "11"},
		// The most symbols, with the shortest and the longest code words.
		{l, repeat(0, api.MaxWord), strings.Repeat("0", api.MaxWord)},
		{[]string{longest}, repeat(0, api.MaxWord), strings.Repeat(longest, api.MaxWord)},
	}
	for _, c := range tests {
		wantPut(t, c.l, c.text, c.want)
	}
}

func TestPutErrors(t *testing.T) { // P1, P2, P40
	for _, l := range [][]string{nil, {"0"}, {"0", "10", "11"}, {"0", "00"}, sample.Bits(api.MaxCodes)} {
		for _, symbol := range []int{
			len(l), len(l) + 1, -1, -len(l) - 1, api.MaxCodes, 256, 1 << 32, -1 << 32,
			math.MaxInt32, math.MinInt32, math.MaxInt, math.MinInt,
		} {
			expectPutError(t, l, []int{symbol}, api.ErrArg)
			expectPutError(t, l, []int{symbol, 0}, api.ErrArg)
			expectPutError(t, l, []int{0, symbol}, api.ErrArg)
			expectPutError(t, l, append(repeat(0, api.MaxWord-1), symbol), api.ErrArg)
			// The number of symbols comes before any of them.
			expectPutError(t, l, repeat(symbol, api.MaxWord), api.ErrArg)
			expectPutError(t, l, repeat(symbol, api.MaxWord+1), api.ErrLarge)
			expectPutError(t, l, append(repeat(0, api.MaxWord), symbol), api.ErrLarge)
		}
		for _, n := range []int{api.MaxWord + 1, api.MaxWord + 2, 1 << 16, 1 << 20} {
			expectPutError(t, l, repeat(0, n), api.ErrLarge)
		}
	}
}

func TestGet(t *testing.T) { // P41
	l := []string{"0", "10", "11"}
	tests := []struct {
		l    []string
		s    string
		want []int
	}{
		{nil, "", nil},
		{[]string{}, "", nil},
		{l, "", nil},
		{l, "0", []int{0}},
		{l, "10", []int{1}},
		{l, "11", []int{2}},
		{l, "10011", []int{1, 0, 2}},
		{l, "11110010", []int{2, 2, 0, 0, 1}},
		// A later code word may end, or stand within, what other ones make up.
		{[]string{"01", "1"}, "1011011", []int{1, 0, 1, 0, 1}},
		{[]string{"10", "0100"}, "100100010010", []int{0, 1, 1, 0}},
		{[]string{"000", "001", "1"}, "0010001000", []int{1, 0, 2, 0}},
	}
	for _, c := range tests {
		wantGet(t, c.l, c.s, c.want)
	}
}

func TestGetNone(t *testing.T) { // P1, P2, P41
	l := []string{"0", "10", "11"}
	tests := []struct {
		l []string
		s string
	}{
		// An end within a code word.
		{l, "1"},
		{l, "01"},
		{l, "10111"},
		{[]string{"000"}, "0"},
		{[]string{"000"}, "00"},
		{[]string{"000"}, "0000"},
		{[]string{strings.Repeat("0", api.MaxBits)}, strings.Repeat("0", 4096)},
		// Bits with which no code word begins.
		{[]string{"0", "10"}, "11"},
		{[]string{"0", "10"}, "0110"},
		{[]string{"0"}, "1"},
		{[]string{"1"}, "11101"},
		// Without code words only the empty string can be made.
		{nil, "0"},
		{nil, "1"},
		{nil, strings.Repeat("0", api.MaxStream)},
		// Other bytes than bits.
		{l, "x"},
		{l, "2"},
		{l, " 0"},
		{l, "0 "},
		{l, "0\n"},
		{l, "\x00"},
		{l, "\x00\x01"},
		{l, "0é0"},
		{nil, "x"},
		// The last of as many bytes as there may be.
		{l, strings.Repeat("0", api.MaxStream-1) + "1"},
		{l, strings.Repeat("0", api.MaxStream-1) + "x"},
	}
	for _, c := range tests {
		expectGetError(t, c.l, c.s, api.ErrNone)
	}
}

func TestGetNotFront(t *testing.T) { // P1, P2, P41
	for _, l := range [][]string{
		{"0", "00"},
		{"00", "0"},
		{"0", "1", "01"},
		// These are uniquely decodable, which is not enough.
		{"0", "01"},
		{"01", "0"},
		{"01", "0110", "11101"},
		append(sample.Bits(api.MaxCodes-1), "0"),
		zeros(api.MaxCodes),
	} {
		for _, s := range []string{
			"", "0", "1", l[0], "x",
			// The form comes before the length.
			strings.Repeat("0", api.MaxStream), strings.Repeat("0", api.MaxStream+1),
			strings.Repeat("x", 1<<16),
		} {
			expectGetError(t, l, s, api.ErrForm)
		}
	}
}

func TestLongStreams(t *testing.T) { // P1, P2, P41
	l := []string{"0", "10", "11"}
	wantGet(t, l, strings.Repeat("0", api.MaxStream), repeat(0, api.MaxStream))
	wantGet(t, l, strings.Repeat("10", api.MaxStream/2), repeat(1, api.MaxStream/2))
	wantGet(t, l, strings.Repeat("0", 201), repeat(0, 201))
	half := sample.Bits(8)
	wantGet(t, half, strings.Repeat("00111", 819), repeat(7, 819))
	for _, l := range [][]string{nil, {"0"}, {"1"}, l, half, {strings.Repeat("0", 12)}} {
		for _, n := range []int{api.MaxStream + 1, api.MaxStream + 2, 1 << 16, 1 << 20} {
			expectGetError(t, l, strings.Repeat("0", n), api.ErrLarge)
			// The length comes before what can be decoded.
			expectGetError(t, l, strings.Repeat("1", n), api.ErrLarge)
			expectGetError(t, l, strings.Repeat("x", n), api.ErrLarge)
		}
	}
}

func TestWays(t *testing.T) { // P42
	forty := strings.Repeat("0", api.MaxWays)
	tests := []struct {
		l    []string
		s    string
		want int
	}{
		{nil, "", 1},
		{[]string{}, "", 1},
		{[]string{"0"}, "", 1},
		{zeros(api.MaxCodes), "", 1},
		{nil, "0", 0},
		{nil, forty, 0},
		{[]string{"0", "01", "10"}, "010", 2},
		{[]string{"0", "01", "10"}, "01010", 3},
		{[]string{"0", "01", "10"}, "1", 0},
		{[]string{"0", "01", "10"}, "011", 0},
		{[]string{"0", "10", "11"}, "10011", 1},
		{[]string{"0", "10", "11"}, "1", 0},
		{[]string{"0", "1"}, "010", 1},
		{[]string{"0", "1", "01"}, "01", 2},
		{[]string{"0", "1", "01"}, "0101", 4},
		{[]string{"0", "00"}, "0000", 5},
		{[]string{"00", "0"}, "0000", 5},
		{[]string{"00", "000"}, "0", 0},
		{[]string{"00", "000"}, "0000000", 3},
		{[]string{"10", "1011", "0110", "11"}, "101101101011", 4},
		// Other bytes than bits.
		{[]string{"0", "1"}, "x", 0},
		{[]string{"0", "1"}, "0x", 0},
		{[]string{"0", "1"}, "x0", 0},
		{[]string{"0", "1"}, "\x00", 0},
		{nil, "x", 0},
		// As many bytes as there may be.
		{[]string{"0"}, forty, 1},
		{[]string{"1"}, forty, 0},
		{[]string{"0", "00"}, forty, 165580141},
		{[]string{"00", "000"}, forty, 31572},
		{[]string{"0", strings.Repeat("0", 12)}, forty, 218},
		{[]string{"0", "00", "000"}, forty, 23837527729},
		// No code has more ways than this one.
		{zeros(12), forty[:39], 273938870271},
		{zeros(12), forty, 547810762745},
	}
	for _, c := range tests {
		wantWays(t, c.l, c.s, c.want)
	}
}

func TestWaysErrors(t *testing.T) { // P1, P2, P42
	for _, l := range [][]string{nil, {"0"}, {"0", "00"}, {"0", "10", "11"}, zeros(api.MaxCodes)} {
		for _, n := range []int{api.MaxWays + 1, api.MaxWays + 2, api.MaxStream, 1 << 20} {
			expectWaysError(t, l, strings.Repeat("0", n), api.ErrLarge)
			expectWaysError(t, l, strings.Repeat("1", n), api.ErrLarge)
			expectWaysError(t, l, strings.Repeat("x", n), api.ErrLarge)
		}
		// Bytes count, not characters.
		expectWaysError(t, l, strings.Repeat("é", 21), api.ErrLarge)
		wantWays(t, l, strings.Repeat("é", 20), 0)
	}
}

func TestCodeErrors(t *testing.T) { // P1, P2, P40, P41, P42
	large := strings.Repeat("0", api.MaxBits+1)
	tests := []struct {
		l    []string
		want api.Errno
	}{
		{[]string{""}, api.ErrEmpty},
		{[]string{"0", ""}, api.ErrEmpty},
		{[]string{large}, api.ErrLarge},
		{[]string{"1", large}, api.ErrLarge},
		{[]string{"2"}, api.ErrForm},
		{[]string{"0", "1 "}, api.ErrForm},
		{[]string{"0", "0"}, api.ErrThere},
		{[]string{"0", "1", "0"}, api.ErrThere},
		{sample.Bits(api.MaxCodes + 1), api.ErrLarge},
		{make([]string, api.MaxCodes), api.ErrEmpty},
		{make([]string, api.MaxCodes+1), api.ErrLarge},
		{make([]string, 1<<16), api.ErrLarge},
		// An error comes before a code that is not prefix-free.
		{[]string{"0", "00", ""}, api.ErrEmpty},
		{[]string{"0", "00", "2"}, api.ErrForm},
		{[]string{"0", "00", large}, api.ErrLarge},
		{[]string{"0", "00", "00"}, api.ErrThere},
		{append(zeros(api.MaxCodes), "1"), api.ErrLarge},
	}
	for _, c := range tests {
		expectCodeError(t, c.l, c.want)
	}
}

func TestEveryByte(t *testing.T) { // P1, P41, P42
	for b := range 256 {
		if b == '0' || b == '1' {
			continue
		}
		for n := range api.MaxWays {
			s := strings.Repeat("0", n) + sample.Ramp(b, 1, 1) + strings.Repeat("1", api.MaxWays-1-n)
			expectGetError(t, []string{"0", "1"}, s, api.ErrNone)
			wantWays(t, []string{"0", "1", "01"}, s, 0)
		}
	}
}

func TestAllShortCodes(t *testing.T) { // P1, P40, P41, P42
	short := sample.Words("01", 6)
	for _, l := range sample.Lists(sample.Words("01", 3)[1:], 3) {
		found := readings(l, 6)
		free, _ := code.Front(l)
		for _, s := range short {
			texts := found[s]
			wantWays(t, l, s, len(texts))
			for _, text := range texts {
				wantPut(t, l, text, s)
			}
			switch {
			case !free:
				expectGetError(t, l, s, api.ErrForm)
			case len(texts) == 0:
				expectGetError(t, l, s, api.ErrNone)
			default:
				wantGet(t, l, s, texts[0])
			}
		}
	}
}

func TestRoundTrips(t *testing.T) { // P1, P40, P41
	for _, l := range longCodes(t) {
		for symbol := range l {
			for _, n := range []int{0, 1, 2, api.MaxWord - 1, api.MaxWord} {
				compareRoundTrip(t, l, repeat(symbol, n))
			}
		}
		for seed := range 10 {
			for n := range api.MaxWord + 1 {
				compareRoundTrip(t, l, sample.Scattered(seed, n, 0, len(l)-1))
			}
		}
	}
}

// A string that lacks its last bit cannot be decoded, because then the last
// code word would begin with another one. A string with one more bit can be
// decoded only if this bit is a code word.
func TestOneBitApart(t *testing.T) { // P1, P41
	for _, l := range longCodes(t) {
		for n := range 30 {
			text := sample.Scattered(n, n, 0, len(l)-1)
			s := slowPut(l, text)
			for symbol, w := range l {
				expectGetError(t, l, s+w[:len(w)-1]+"x", api.ErrNone)
				if len(w) > 1 {
					expectGetError(t, l, s+w[:len(w)-1], api.ErrNone)
					expectGetError(t, l, s+w[:1], api.ErrNone)
				} else {
					wantGet(t, l, s+w, append(slices.Clone(text), symbol))
				}
			}
		}
	}
}

func TestLongWays(t *testing.T) { // P1, P42
	bits := strings.NewReplacer("a", "0", "b", "1").Replace(sample.Fibonacci(api.MaxWays))
	texts := []string{
		strings.Repeat("0", api.MaxWays),
		strings.Repeat("01", api.MaxWays/2),
		strings.Repeat("0010111", 6)[:api.MaxWays],
		bits,
	}
	codes := append(longCodes(t), sample.Words("01", 2)[1:], sample.Words("01", 3)[3:])
	for n := range api.MaxCodes + 1 {
		codes = append(codes, zeros(n), sample.Words("01", 3)[1:][:n])
	}
	// Parts of the string itself make code words that overlap in many ways.
	for n := 2; n <= api.MaxCodes; n++ {
		var l []string
		for i := range n {
			if w := bits[i*3%11:][:1+i*5%api.MaxBits]; !slices.Contains(l, w) {
				l = append(l, w)
			}
		}
		codes = append(codes, l)
	}
	for _, l := range codes {
		for _, s := range texts {
			for n := range len(s) + 1 {
				wantWays(t, l, s[:n], slowWays(l, s[:n]))
				wantWays(t, l, s[n:], slowWays(l, s[n:]))
			}
		}
	}
}

func TestArgumentsAreLeft(t *testing.T) { // P2
	memory, text := []string{"0", "10", "11", "x", "y"}, []int{1, 0, 2, 7, 8}
	wantPut(t, memory[:3], text[:3], "10011")
	wantGet(t, memory[:3], "10011", text[:3])
	wantWays(t, memory[:3], "10011", 1)
	expectPutError(t, memory[:3], text[:4], api.ErrArg)
	if !slices.Equal(memory, []string{"0", "10", "11", "x", "y"}) {
		t.Errorf("the code became %q", memory)
	}
	if !slices.Equal(text, []int{1, 0, 2, 7, 8}) {
		t.Errorf("the text became %v", text)
	}
}

func TestResultsAreNewMemory(t *testing.T) { // P2
	l := []string{"0", "10", "11"}
	streams := []string{"10011", "", "0", "10011", "111100", "0"}
	wants := [][]int{{1, 0, 2}, nil, {0}, {1, 0, 2}, {2, 2, 0, 0}, {0}}
	var results [][]int
	for _, s := range streams {
		text, _ := Get(l, s)
		results = append(results, text)
	}
	if !slices.EqualFunc(results, wants, slices.Equal) {
		t.Errorf("the results are %v after later calls; want %v", results, wants)
	}
	if !sample.Apart(results...) {
		t.Error("results share memory")
	}
	for _, text := range results {
		clear(text[:cap(text)])
	}
	for i, s := range streams {
		wantGet(t, l, s, wants[i])
	}
}

func TestNoStateBetweenCalls(t *testing.T) { // P2
	for _, l := range [][]string{{"0", "10"}, nil, {"0", "1"}, {"10", "0"}, {"0", "00"}, {"1"}, {"0", "10"}} {
		found := readings(l, 4)
		free, _ := code.Front(l)
		for range 2 {
			for s, texts := range found {
				wantWays(t, l, s, len(texts))
				wantPut(t, l, texts[0], s)
				if free {
					wantGet(t, l, s, texts[0])
				}
			}
			expectPutError(t, l, []int{len(l)}, api.ErrArg)
			expectCodeError(t, append(slices.Clone(l), ""), api.ErrEmpty)
		}
	}
}
