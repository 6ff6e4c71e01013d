package code

import (
	"math"
	"slices"
	"strings"
	"testing"

	"quillward/api"
	"quillward/sample"
)

// The slow functions follow the document's words, so that the fast ones can be
// compared with them. They use nothing of the package.

func slowFront(l []string) bool {
	for i := range l {
		for k := range l {
			if i != k && strings.HasPrefix(l[i], l[k]) {
				return false
			}
		}
	}
	return true
}

// slowSole compares the sequences of code words with at most n bits.
func slowSole(l []string, n int) bool {
	joined := []map[string]bool{{"": true}}
	for k := 1; k <= n; k++ {
		joined = append(joined, map[string]bool{})
		for _, w := range l {
			if len(w) > k {
				continue
			}
			for s := range joined[k-len(w)] {
				if joined[k][s+w] {
					return false
				}
				joined[k][s+w] = true
			}
		}
	}
	return true
}

// place is how many bits of a code word are read.
type place struct{ word, bits int }

func (p place) atEnd(l []string) bool { return p.bits == len(l[p.word]) }

// after returns where a reader at p may be when it has read one more bit b.
func (p place) after(l []string, b byte) []place {
	next := []place{{p.word, p.bits + 1}}
	if p.atEnd(l) {
		next = nil
		for i := range l {
			next = append(next, place{i, 1})
		}
	}
	return slices.DeleteFunc(next, func(p place) bool { return l[p.word][p.bits-1] != b })
}

// twoReadings says whether some bits can be read in two ways: it lets two
// readers begin with different code words and looks for a place where both are
// at an end. It takes code words of every length, unlike slowSole.
func twoReadings(l []string) bool {
	var pairs [][2]place
	seen := map[[2]place]bool{}
	add := func(p, q place) {
		if pair := [2]place{p, q}; !seen[pair] {
			seen[pair] = true
			pairs = append(pairs, pair)
		}
	}
	for i := range l {
		for k := range i {
			if l[i][0] == l[k][0] {
				add(place{i, 1}, place{k, 1})
			}
		}
	}
	for n := 0; n < len(pairs); n++ {
		p, q := pairs[n][0], pairs[n][1]
		if p.atEnd(l) && q.atEnd(l) {
			return true
		}
		for _, b := range []byte("01") {
			for _, p := range p.after(l, b) {
				for _, q := range q.after(l, b) {
					add(p, q)
				}
			}
		}
	}
	return false
}

// slowSum adds up how many words with MaxBits bits each length stands for.
func slowSum(lens []int) int {
	sum := 0
	for _, n := range lens {
		words := 1
		for range api.MaxBits - n {
			words *= 2
		}
		sum += words
	}
	return sum
}

// smallest returns the smallest word with n bits that is greater than all of l
// and begins with none of them. The words with n bits are tried in order.
func smallest(l []string, n int) string {
	for w := strings.Repeat("0", n); ; {
		if !slices.ContainsFunc(l, func(s string) bool { return w <= s || strings.HasPrefix(w, s) }) {
			return w
		}
		zero := strings.LastIndex(w, "0")
		if zero < 0 {
			return ""
		}
		w = w[:zero] + "1" + strings.Repeat("0", n-zero-1)
	}
}

func slowMake(lens []int) []string {
	words := make([]string, len(lens))
	var given []string
	for n := 1; n <= api.MaxBits; n++ {
		for i, k := range lens {
			if k == n {
				words[i] = smallest(given, n)
				given = append(given, words[i])
			}
		}
	}
	return words
}

func wantFront(t *testing.T, l []string, want bool) {
	t.Helper()
	if is, e := Front(l); e != api.OK || is != want {
		t.Errorf("Front(%q) = %v, %v; want %v", l, is, e, want)
	}
}

func wantSole(t *testing.T, l []string, want bool) {
	t.Helper()
	if is, e := Sole(l); e != api.OK || is != want {
		t.Errorf("Sole(%q) = %v, %v; want %v", l, is, e, want)
	}
}

func wantSum(t *testing.T, lens []int, want int) {
	t.Helper()
	if n, e := Sum(lens); e != api.OK || n != want {
		t.Errorf("Sum(%v) = %v, %v; want %v", lens, n, e, want)
	}
}

func wantMake(t *testing.T, lens []int, want []string) {
	t.Helper()
	if l, e := Make(lens); e != api.OK || !slices.Equal(l, want) {
		t.Errorf("Make(%v) = %q, %v; want %q", lens, l, e, want)
	}
}

// compareLens compares Sum and Make with their slow versions for lengths in
// their range.
func compareLens(t *testing.T, lens []int) {
	t.Helper()
	sum := slowSum(lens)
	wantSum(t, lens, sum)
	if sum <= 4096 {
		wantMake(t, lens, slowMake(lens))
	} else if l, e := Make(lens); e != api.ErrNone || len(l) != 0 {
		t.Errorf("Make(%v) = %q, %v; want %v", lens, l, e, api.ErrNone)
	}
}

// expectError checks that each function reports the same error for l, and no
// other result.
func expectError(t *testing.T, l []string, want api.Errno) {
	t.Helper()
	if e := Check(l); e != want {
		t.Errorf("Check(%.20q) = %v; want %v", l, e, want)
	}
	if is, e := Front(l); e != want || is {
		t.Errorf("Front(%.20q) = %v, %v; want %v", l, is, e, want)
	}
	if is, e := Sole(l); e != want || is {
		t.Errorf("Sole(%.20q) = %v, %v; want %v", l, is, e, want)
	}
}

func expectLensError(t *testing.T, lens []int, want api.Errno) {
	t.Helper()
	if n, e := Sum(lens); e != want || n != 0 {
		t.Errorf("Sum of %d lengths = %v, %v; want %v", len(lens), n, e, want)
	}
	if l, e := Make(lens); e != want || len(l) != 0 {
		t.Errorf("Make of %d lengths = %q, %v; want %v", len(lens), l, e, want)
	}
}

func reversed(s string) string {
	text := []byte(s)
	slices.Reverse(text)
	return string(text)
}

func allReversed(l []string) []string {
	var turned []string
	for _, w := range l {
		turned = append(turned, reversed(w))
	}
	return turned
}

// flipped returns the code with one bit turned over.
func flipped(l []string, word, bit int) []string {
	changed := slices.Clone(l)
	b := []byte(l[word])
	b[bit] ^= '0' ^ '1'
	changed[word] = string(b)
	return changed
}

func TestCheck(t *testing.T) { // P31
	longest := strings.Repeat("0", api.MaxBits)
	for _, l := range [][]string{
		nil,
		{},
		{"0"},
		{"1"},
		{"0", "1"},
		{"0", "00", "000"},
		{"01", "0"},
		{longest},
		{longest, longest[1:], longest[1:] + "1"},
		sample.Bits(api.MaxCodes),
	} {
		if e := Check(l); e != api.OK {
			t.Errorf("Check(%q) = %v", l, e)
		}
	}
	for n := 1; n <= api.MaxBits; n++ {
		for _, w := range []string{strings.Repeat("0", n), strings.Repeat("10", n)[:n]} {
			if e := Check([]string{w}); e != api.OK {
				t.Errorf("Check(%q) = %v", w, e)
			}
		}
	}
}

func TestErrors(t *testing.T) { // P1, P2, P31, P32, P33
	large := strings.Repeat("0", api.MaxBits+1)
	tests := []struct {
		l    []string
		want api.Errno
	}{
		{[]string{""}, api.ErrEmpty},
		{[]string{"0", ""}, api.ErrEmpty},
		{[]string{"", ""}, api.ErrEmpty},
		{[]string{large}, api.ErrLarge},
		{[]string{"1", large}, api.ErrLarge},
		{[]string{large, large}, api.ErrLarge},
		{[]string{strings.Repeat("1", 1<<20)}, api.ErrLarge},
		{[]string{"2"}, api.ErrForm},
		{[]string{"a", "a"}, api.ErrForm},
		{[]string{"0", "0 "}, api.ErrForm},
		{[]string{"é"}, api.ErrForm},
		{[]string{"0", "0"}, api.ErrThere},
		{[]string{"0", "1", "0"}, api.ErrThere},
		{[]string{"1", "0", "0"}, api.ErrThere},
		{[]string{large[1:], large[1:]}, api.ErrThere},
		// The length comes before the bytes.
		{[]string{strings.Repeat("2", api.MaxBits)}, api.ErrForm},
		{[]string{strings.Repeat("2", api.MaxBits+1)}, api.ErrLarge},
		{[]string{large[1:] + "2"}, api.ErrLarge},
		// The first code word with an error counts.
		{[]string{"", large}, api.ErrEmpty},
		{[]string{large, ""}, api.ErrLarge},
		{[]string{"", "2"}, api.ErrEmpty},
		{[]string{"2", ""}, api.ErrForm},
		{[]string{"2", large}, api.ErrForm},
		{[]string{large, "2"}, api.ErrLarge},
		{[]string{"0", "0", ""}, api.ErrThere},
		{[]string{"0", "", "0"}, api.ErrEmpty},
		{[]string{"0", "0", large}, api.ErrThere},
		{[]string{"0", large, "0"}, api.ErrLarge},
		{[]string{"0", "0", "2"}, api.ErrThere},
		{[]string{"0", "2", "0"}, api.ErrForm},
		// The number of code words comes before any of them.
		{sample.Bits(api.MaxCodes + 1), api.ErrLarge},
		{make([]string, api.MaxCodes), api.ErrEmpty},
		{make([]string, api.MaxCodes+1), api.ErrLarge},
		{slices.Repeat([]string{"2"}, api.MaxCodes), api.ErrForm},
		{slices.Repeat([]string{"2"}, api.MaxCodes+1), api.ErrLarge},
		{slices.Repeat([]string{"0"}, api.MaxCodes), api.ErrThere},
		{slices.Repeat([]string{"0"}, api.MaxCodes+1), api.ErrLarge},
		{make([]string, 1<<20), api.ErrLarge},
		{append(sample.Bits(api.MaxCodes-1), sample.Bits(1)...), api.ErrThere},
		{append(sample.Bits(api.MaxCodes-1), ""), api.ErrEmpty},
		{append(sample.Bits(api.MaxCodes-1), "2"), api.ErrForm},
		{append(sample.Bits(api.MaxCodes-1), large), api.ErrLarge},
		// A code that is not prefix-free or not uniquely decodable for its
		// first words is checked to its end.
		{[]string{"0", "00", "2"}, api.ErrForm},
		{[]string{"0", "00", ""}, api.ErrEmpty},
	}
	for _, c := range tests {
		expectError(t, c.l, c.want)
	}
}

func TestEveryByte(t *testing.T) { // P1, P31, P32, P33
	for b := range 256 {
		if b == '0' || b == '1' {
			continue
		}
		one := sample.Ramp(b, 1, 1)
		for n := range api.MaxBits {
			before, after := strings.Repeat("1", n), strings.Repeat("0", api.MaxBits-1-n)
			expectError(t, []string{before + one}, api.ErrForm)
			expectError(t, []string{"0", before + one + after}, api.ErrForm)
		}
	}
}

func TestFront(t *testing.T) { // P32
	tests := []struct {
		l    []string
		want bool
	}{
		{nil, true},
		{[]string{"0"}, true},
		{[]string{"0", "1"}, true},
		{[]string{"0", "10", "11"}, true},
		{[]string{"11", "0", "10"}, true},
		{[]string{"0", "01"}, false},
		{[]string{"01", "0"}, false},
		{[]string{"00", "1", "001"}, false},
		{[]string{"001", "1", "00"}, false},
		{[]string{"1", "00", "01", "011"}, false},
		// A suffix or what lies within another word does not count.
		{[]string{"1", "01"}, true},
		{[]string{"01", "1"}, true},
		{[]string{"10", "0100"}, true},
		{sample.Bits(api.MaxCodes), true},
		{append(sample.Bits(api.MaxCodes-1), "0"), false},
		{append([]string{"1"}, sample.Bits(api.MaxCodes-1)...), true},
	}
	for _, c := range tests {
		wantFront(t, c.l, c.want)
	}
}

func TestSole(t *testing.T) { // P33
	zeros := strings.Repeat("0", api.MaxBits)
	tests := []struct {
		l    []string
		want bool
	}{
		{nil, true},
		{[]string{"0"}, true},
		{[]string{zeros}, true},
		{[]string{"0", "1"}, true},
		{[]string{"0", "10", "11"}, true},
		// Not prefix-free, but uniquely decodable.
		{[]string{"0", "01"}, true},
		{[]string{"01", "0"}, true},
		{[]string{"0", "01", "11"}, true},
		{[]string{"1", "10", "00"}, true},
		{[]string{"0", "01", "011", "0111"}, true},
		// Neither prefix-free nor suffix-free, but uniquely decodable.
		{[]string{"0", "010", "11"}, true},
		{[]string{"01", "0110", "11101"}, true},
		// 1011 is 10 11.
		{[]string{"10", "1011", "0110", "11"}, false},
		// 010 is 0 10 and 01 0.
		{[]string{"0", "01", "10"}, false},
		{[]string{"0", "00"}, false},
		{[]string{"00", "0"}, false},
		{[]string{"0", "1", "01"}, false},
		// 011101110011 is 01110 1110 011 and 011 1 011 10011.
		{[]string{"1", "011", "01110", "1110", "10011"}, false},
		// 00 and 000 both go up to 000000.
		{[]string{"00", "000"}, false},
		// Only after 132 bits both have the same length.
		{[]string{zeros, zeros[1:]}, false},
		{[]string{zeros[5:], zeros[1:]}, false},
		{sample.Bits(api.MaxCodes), true},
	}
	for _, c := range tests {
		wantSole(t, c.l, c.want)
		wantSole(t, allReversed(c.l), c.want)
		backwards := slices.Clone(c.l)
		slices.Reverse(backwards)
		wantSole(t, backwards, c.want)
	}
}

func TestAllShortCodes(t *testing.T) { // P1, P31, P32, P33
	// A lead has 1 or 2 bits and need not come twice, so 12 bits show whether
	// words with up to 3 bits can be read in two ways.
	for _, l := range sample.Lists(sample.Words("01", 3)[1:], 3) {
		wantFront(t, l, slowFront(l))
		wantSole(t, l, slowSole(l, 12))
	}
}

func TestAllSetsOfShortWords(t *testing.T) { // P1, P31, P32, P33
	words := sample.Words("01", 3)[1:]
	for set := range 1 << len(words) {
		var l []string
		for i, w := range words {
			if set>>i&1 == 1 {
				l = append(l, w)
			}
		}
		if len(l) > api.MaxCodes {
			expectError(t, l, api.ErrLarge)
			continue
		}
		wantFront(t, l, slowFront(l))
		wantSole(t, l, slowSole(l, 12))
		if twoReadings(l) == slowSole(l, 12) {
			t.Errorf("the slow versions disagree about %q", l)
		}
	}
}

func TestAllPairs(t *testing.T) { // P1, P32, P33
	words := sample.Words("01", 6)[1:]
	for _, l := range sample.Lists(words, 2) {
		wantFront(t, l, slowFront(l))
		wantSole(t, l, !twoReadings(l))
	}
}

// A prefix-free code read from behind is uniquely decodable too, but often not
// prefix-free. With one bit turned over it may be anything.
func TestLongCodes(t *testing.T) { // P1, P32, P33
	found := map[bool]int{}
	for _, lens := range sample.Lengths() {
		l := slowMake(lens)
		wantFront(t, l, true)
		wantSole(t, l, true)
		wantFront(t, allReversed(l), slowFront(allReversed(l)))
		wantSole(t, allReversed(l), true)
		for i, n := range lens {
			for bit := range n {
				changed := flipped(l, i, bit)
				if slices.Contains(l, changed[i]) {
					continue
				}
				want := !twoReadings(changed)
				found[want]++
				wantFront(t, changed, slowFront(changed))
				wantSole(t, changed, want)
				wantSole(t, allReversed(changed), want)
			}
		}
	}
	if found[true] < 50 || found[false] < 50 {
		t.Errorf("codes that are, and are not, uniquely decodable: %v", found)
	}
}

// Bits of one long word make code words that overlap in many ways.
func TestOverlappingWords(t *testing.T) { // P1, P32, P33
	found := map[bool]int{}
	signs := strings.NewReplacer("a", "0", "b", "1")
	for _, long := range []string{
		signs.Replace(sample.Fibonacci(api.MaxWord)),
		strings.Repeat("0010111", 30),
		strings.Repeat("000100110101111", 13),
	} {
		for n := 2; n <= api.MaxCodes; n++ {
			for at := range 20 {
				var l []string
				for i := range n {
					from, bits := at+i*i*7%150, api.MaxBits-(at+i*5)%8
					if w := long[from : from+bits]; !slices.Contains(l, w) {
						l = append(l, w)
					}
				}
				want := !twoReadings(l)
				found[want]++
				wantFront(t, l, slowFront(l))
				wantSole(t, l, want)
			}
		}
	}
	if found[true] < 50 || found[false] < 50 {
		t.Errorf("codes that are, and are not, uniquely decodable: %v", found)
	}
}

func TestSum(t *testing.T) { // P34
	tests := []struct {
		lens []int
		want int
	}{
		{nil, 0},
		{[]int{1}, 2048},
		{[]int{12}, 1},
		{[]int{11}, 2},
		{[]int{1, 12}, 2049},
		{[]int{12, 1}, 2049},
		{[]int{1, 2, 2}, 4096},
		{[]int{1, 2, 3, 4, 5, 6, 7, 8, 9, 10, 11, 12}, 4095},
		// Sum has no upper limit of its own.
		{[]int{1, 1, 12}, 4097},
		{slices.Repeat([]int{1}, api.MaxCodes), 24576},
		{slices.Repeat([]int{12}, api.MaxCodes), 12},
	}
	for _, c := range tests {
		wantSum(t, c.lens, c.want)
	}
}

func TestLensErrors(t *testing.T) { // P1, P2, P34, P35
	for _, n := range []int{
		0, -1, -12, api.MaxBits + 1, 64, 65, 1 << 32, 1<<32 + 1,
		math.MaxInt32, math.MinInt32, math.MaxInt, math.MinInt,
	} {
		expectLensError(t, []int{n}, api.ErrArg)
		expectLensError(t, []int{1, n}, api.ErrArg)
		expectLensError(t, []int{n, 1}, api.ErrArg)
		expectLensError(t, append(slices.Repeat([]int{12}, api.MaxCodes-1), n), api.ErrArg)
		// A length out of its range comes before a sum that is too great.
		expectLensError(t, []int{1, 1, 1, n}, api.ErrArg)
		// The number of lengths comes before any of them.
		expectLensError(t, append(slices.Repeat([]int{12}, api.MaxCodes), n), api.ErrLarge)
		expectLensError(t, slices.Repeat([]int{n}, api.MaxCodes+1), api.ErrLarge)
	}
	for _, n := range []int{api.MaxCodes + 1, api.MaxCodes + 2, 256, 1 << 20} {
		expectLensError(t, slices.Repeat([]int{12}, n), api.ErrLarge)
		expectLensError(t, slices.Repeat([]int{1}, n), api.ErrLarge)
		expectLensError(t, make([]int, n), api.ErrLarge)
	}
}

func TestMake(t *testing.T) { // P35
	tests := []struct {
		lens []int
		want []string
	}{
		{nil, nil},
		{[]int{1}, []string{"0"}},
		{[]int{3}, []string{"000"}},
		{[]int{12}, []string{"000000000000"}},
		{[]int{1, 1}, []string{"0", "1"}},
		{[]int{1, 2, 2}, []string{"0", "10", "11"}},
		// The words stay at the places of their lengths.
		{[]int{2, 1, 2}, []string{"10", "0", "11"}},
		{[]int{2, 2, 1}, []string{"10", "11", "0"}},
		{[]int{3, 2, 3, 1}, []string{"110", "10", "111", "0"}},
		// A code need not use up all words.
		{[]int{2, 2}, []string{"00", "01"}},
		{[]int{3, 1}, []string{"100", "0"}},
		{[]int{2, 4, 2}, []string{"00", "1000", "01"}},
		{[]int{3, 5, 3, 4}, []string{"000", "01010", "001", "0100"}},
		{[]int{12, 1, 12}, []string{"100000000000", "0", "100000000001"}},
	}
	for _, c := range tests {
		wantMake(t, c.lens, c.want)
	}
}

func TestMakeNone(t *testing.T) { // P1, P2, P35
	for _, lens := range [][]int{
		{1, 1, 1},
		{1, 1, 12},
		{12, 1, 1},
		{1, 2, 2, 12},
		{2, 2, 2, 2, 2},
		{1, 2, 3, 4, 5, 6, 7, 8, 9, 10, 10, 12},
		{3, 3, 3, 3, 3, 3, 3, 3, 12},
		slices.Repeat([]int{1}, api.MaxCodes),
		slices.Repeat([]int{3}, api.MaxCodes),
	} {
		if l, e := Make(lens); e != api.ErrNone || len(l) != 0 {
			t.Errorf("Make(%v) = %q, %v", lens, l, e)
		}
	}
}

func TestAllLens(t *testing.T) { // P1, P34, P35
	for _, lens := range slices.Concat(sample.Numbers(4, 6), sample.Numbers(7, 3), sample.Numbers(api.MaxBits, 2)) {
		compareLens(t, lens)
	}
}

func TestLongLens(t *testing.T) { // P1, P34, P35
	for _, lens := range sample.Lengths() {
		for n := range len(lens) + 1 {
			compareLens(t, lens[:n])
			compareLens(t, lens[n:])
		}
		backwards := slices.Clone(lens)
		slices.Reverse(backwards)
		compareLens(t, backwards)
		// One length that is off by one: the sum may get too great.
		for i := range lens {
			shorter := slices.Clone(lens)
			shorter[i] = max(1, shorter[i]-1)
			compareLens(t, shorter)
		}
	}
}

func TestArgumentsAreLeft(t *testing.T) { // P2
	memory := []string{"01", "1", "0", "x", "y"}
	l := memory[:3]
	if e := Check(l); e != api.OK {
		t.Error(e)
	}
	wantFront(t, l, false)
	wantSole(t, l, false)
	if !slices.Equal(memory, []string{"01", "1", "0", "x", "y"}) {
		t.Errorf("the code became %q", memory)
	}
	numbers := []int{3, 1, 2, 7, 8}
	wantSum(t, numbers[:3], 3584)
	wantMake(t, numbers[:3], []string{"110", "0", "10"})
	if !slices.Equal(numbers, []int{3, 1, 2, 7, 8}) {
		t.Errorf("the lengths became %v", numbers)
	}
}

func TestResultsAreNewMemory(t *testing.T) { // P2
	lists := [][]int{{3, 1, 2, 3}, nil, {1}, {3, 1, 2, 3}}
	var results [][]string
	for _, lens := range lists {
		l, _ := Make(lens)
		results = append(results, l)
	}
	for i, l := range results {
		if want := slowMake(lists[i]); !slices.Equal(l, want) {
			t.Errorf("result %d is %q after later calls; want %q", i, l, want)
		}
	}
	if !sample.Apart(results...) {
		t.Error("results share memory")
	}
	for _, l := range results {
		clear(l[:cap(l)])
	}
	for _, lens := range lists {
		compareLens(t, lens)
	}
}

func TestNoStateBetweenCalls(t *testing.T) { // P2
	for _, l := range [][]string{{"0", "01"}, nil, {"0", "1"}, {"0", "01"}, {"0", "00"}, {"1"}} {
		for range 2 {
			wantFront(t, l, slowFront(l))
			wantSole(t, l, slowSole(l, 12))
			expectError(t, append(slices.Clone(l), ""), api.ErrEmpty)
		}
	}
	for _, lens := range [][]int{{2, 1}, nil, {1, 1, 1}, {2, 1}, {12}} {
		for range 2 {
			compareLens(t, lens)
			expectLensError(t, append(slices.Clone(lens), 0), api.ErrArg)
		}
	}
}
