package front

import (
	"math"
	"slices"
	"strings"
	"testing"

	"quillward/api"
	"quillward/sample"
)

// The slow functions follow the document's words, so that the fast ones can be
// compared with them. They use nothing of the package.

// slowIndex counts the bytes that are ahead of b in the list after text: those
// that were moved to the front later, or of those that were not moved the
// lesser ones.
func slowIndex(text []byte, b byte) int {
	var last [256]int
	for i, c := range text {
		last[c] = i + 1
	}
	ahead := 0
	for k := range 256 {
		c := byte(k)
		if last[c] > last[b] || last[c] == last[b] && c < b {
			ahead++
		}
	}
	return ahead
}

func slowPut(s string) []int {
	var l []int
	for i := range len(s) {
		l = append(l, slowIndex([]byte(s[:i]), s[i]))
	}
	return l
}

// slowGet tries every byte. It expects that the elements are in range.
func slowGet(l []int) string {
	var text []byte
	for _, want := range l {
		b := byte(0)
		for slowIndex(text, b) != want {
			b++
		}
		text = append(text, b)
	}
	return string(text)
}

// slowRuns looks for the end of each run where one begins.
func slowRuns(s string) []api.Run {
	var l []api.Run
	for from := range len(s) {
		if from > 0 && s[from-1] == s[from] {
			continue
		}
		to := from + 1
		for to < len(s) && s[to] == s[from] {
			to++
		}
		l = append(l, api.Run{B: s[from], N: to - from})
	}
	return l
}

func slowWhole(l []api.Run) (string, api.Errno) {
	s := ""
	for i, r := range l {
		switch {
		case r.N < 1:
			return "", api.ErrArg
		case i > 0 && r.B == l[i-1].B:
			return "", api.ErrForm
		case uint64(len(s))+uint64(r.N) > api.MaxWord:
			return "", api.ErrLarge
		}
		for range r.N {
			s += string([]byte{r.B})
		}
	}
	return s, api.OK
}

func wantPut(t *testing.T, s string, want []int) {
	t.Helper()
	if l, e := Put(s); e != api.OK || !slices.Equal(l, want) {
		t.Errorf("Put(%q) = %v, %v; want %v", s, l, e, want)
	}
}

func wantGet(t *testing.T, l []int, want string) {
	t.Helper()
	if s, e := Get(l); e != api.OK || s != want {
		t.Errorf("Get(%v) = %q, %v; want %q", l, s, e, want)
	}
}

func wantRuns(t *testing.T, s string, want []api.Run) {
	t.Helper()
	if l, e := Runs(s); e != api.OK || !slices.Equal(l, want) {
		t.Errorf("Runs(%q) = %v, %v; want %v", s, l, e, want)
	}
}

func wantWhole(t *testing.T, l []api.Run, want string) {
	t.Helper()
	if s, e := Whole(l); e != api.OK || s != want {
		t.Errorf("Whole(%v) = %q, %v; want %q", l, s, e, want)
	}
}

func expectGetError(t *testing.T, l []int, want api.Errno) {
	t.Helper()
	if s, e := Get(l); e != want || s != "" {
		t.Errorf("Get(%v) of %d elements = %q, %v; want %v", l[:min(len(l), 25)], len(l), s, e, want)
	}
}

func expectWholeError(t *testing.T, l []api.Run, want api.Errno) {
	t.Helper()
	if s, e := Whole(l); e != want || s != "" {
		t.Errorf("Whole(%v) of %d runs = %q, %v; want %v", l[:min(len(l), 25)], len(l), s, e, want)
	}
}

func expectTooLarge(t *testing.T, s string) {
	t.Helper()
	if l, e := Put(s); e != api.ErrLarge || len(l) != 0 {
		t.Errorf("Put of %d bytes = %v, %v", len(s), l, e)
	}
	if l, e := Runs(s); e != api.ErrLarge || len(l) != 0 {
		t.Errorf("Runs of %d bytes = %v, %v", len(s), l, e)
	}
}

// compareMoves checks Put of s, and that Get inverts it.
func compareMoves(t *testing.T, s string) {
	t.Helper()
	l := slowPut(s)
	wantPut(t, s, l)
	wantGet(t, l, s)
}

// compareRuns checks Runs of s, and that Whole inverts it.
func compareRuns(t *testing.T, s string) {
	t.Helper()
	l := slowRuns(s)
	wantRuns(t, s, l)
	wantWhole(t, l, s)
}

// compareGet checks Get of l, and that Put inverts it.
func compareGet(t *testing.T, l []int) {
	t.Helper()
	s := slowGet(l)
	wantGet(t, l, s)
	wantPut(t, s, l)
}

// compareWhole checks Whole of l, and that Runs inverts it.
func compareWhole(t *testing.T, l []api.Run) {
	t.Helper()
	s, e := slowWhole(l)
	if e != api.OK {
		expectWholeError(t, l, e)
		return
	}
	wantWhole(t, l, s)
	wantRuns(t, s, l)
}

// runs returns a run of each byte, with the length that belongs to it.
func runs(bytes string, lengths ...int) []api.Run {
	var l []api.Run
	for i, n := range lengths {
		l = append(l, api.Run{B: bytes[i], N: n})
	}
	return l
}

// single returns n runs of one byte, of a and b by turns.
func single(n int) []api.Run {
	return slices.Repeat(runs("ab", 1, 1), n/2+1)[:n]
}

// and appends without using spare capacity.
func and[T any](l []T, more ...T) []T {
	return append(slices.Clip(l), more...)
}

// outside returns numbers of no element of the list of bytes.
func outside() []int {
	return []int{
		-1, -2, -255, -256, 256, 257, 256 + 97, 512, 1<<16 + 97, 1 << 32, -1 << 32,
		math.MaxInt32, math.MinInt32, math.MaxInt, math.MinInt,
	}
}

// tooSmall returns lengths of no run.
func tooSmall() []int {
	return []int{0, -1, -2, -256, -1 << 16, math.MinInt32, -1 << 32, 1 - 1<<32, math.MinInt + 1, math.MinInt}
}

// tooLong returns lengths of runs for which there is no room.
func tooLong() []int {
	return []int{
		api.MaxWord + 1, api.MaxWord + 2, 256, 257, 1 << 16, math.MaxInt32, 1 << 32, 1<<32 + 1,
		math.MaxInt - api.MaxWord, math.MaxInt - 1, math.MaxInt,
	}
}

func TestPut(t *testing.T) { // P45
	tests := []struct {
		s    string
		want []int
	}{
		{"", nil},
		{"a", []int{97}},
		{"aab", []int{97, 0, 98}},
		// The bytes before the one that is moved are one place further back.
		{"ba", []int{98, 98}},
		{"ab", []int{97, 98}},
		{"abab", []int{97, 98, 1, 1}},
		{"abcabc", []int{97, 98, 99, 2, 2, 2}},
		{"abccba", []int{97, 98, 99, 0, 1, 2}},
		{"cba", []int{99, 99, 99}},
		{"banana", []int{98, 98, 110, 1, 1, 1}},
		{"mississippi", []int{109, 106, 115, 0, 1, 1, 0, 1, 113, 0, 1}},
		{"\x00\x01\x02", []int{0, 1, 2}},
		{"\x00\x00\x00", []int{0, 0, 0}},
		{"\x02\x01\x00", []int{2, 2, 2}},
		{"\xff\xfe\xff", []int{255, 255, 1}},
		// The last place of the list.
		{"\xff\x00\xff\xff", []int{255, 1, 1, 0}},
		// Bytes count, not characters.
		{"éé", []int{195, 170, 1, 1}},
	}
	for _, c := range tests {
		wantPut(t, c.s, c.want)
		wantGet(t, c.want, c.s)
	}
}

func TestGet(t *testing.T) { // P46
	tests := []struct {
		l    []int
		want string
	}{
		{nil, ""},
		{[]int{}, ""},
		{[]int{97, 0, 98, 1}, "aaba"},
		{[]int{0, 0, 0}, "\x00\x00\x00"},
		{[]int{1, 1, 1}, "\x01\x00\x01"},
		{[]int{2, 2, 2, 2}, "\x02\x01\x00\x02"},
		{[]int{255, 255, 255}, "\xff\xfe\xfd"},
		{[]int{255, 0, 255}, "\xff\xff\xfe"},
		{make([]int, api.MaxWord), strings.Repeat("\x00", api.MaxWord)},
		{and([]int{97}, make([]int, api.MaxWord-1)...), strings.Repeat("a", api.MaxWord)},
		{slices.Repeat([]int{255}, api.MaxWord), sample.Ramp(255, -1, api.MaxWord)},
	}
	for _, c := range tests {
		wantGet(t, c.l, c.want)
		wantPut(t, c.want, c.l)
	}
}

func TestGetOutOfRange(t *testing.T) { // P1, P2, P46
	for _, bad := range outside() {
		expectGetError(t, []int{bad}, api.ErrArg)
		expectGetError(t, []int{bad, 0}, api.ErrArg)
		expectGetError(t, []int{0, bad}, api.ErrArg)
		expectGetError(t, []int{255, 97, bad, 0}, api.ErrArg)
		expectGetError(t, []int{bad, bad}, api.ErrArg)
		full := make([]int, api.MaxWord)
		for _, at := range []int{0, 1, api.MaxWord / 2, api.MaxWord - 1} {
			full[at] = bad
			expectGetError(t, full, api.ErrArg)
			full[at] = 0
		}
	}
}

func TestGetTooMany(t *testing.T) { // P1, P2, P46
	for _, n := range []int{api.MaxWord + 1, api.MaxWord + 2, 256, 1 << 16, 1 << 20} {
		large := make([]int, n)
		expectGetError(t, large, api.ErrLarge)
		// The number of elements comes before their range.
		for _, bad := range outside() {
			large[0] = bad
			expectGetError(t, large, api.ErrLarge)
			large[0], large[n-1] = 0, bad
			expectGetError(t, large, api.ErrLarge)
			large[n-1] = 0
		}
	}
}

func TestRuns(t *testing.T) { // P47
	tests := []struct {
		s    string
		want []api.Run
	}{
		{"", nil},
		{"a", runs("a", 1)},
		{"aa", runs("a", 2)},
		{"aab", runs("ab", 2, 1)},
		{"abb", runs("ab", 1, 2)},
		{"aba", runs("aba", 1, 1, 1)},
		{"aabaaa", runs("aba", 2, 1, 3)},
		{"mississippi", runs("misisipi", 1, 1, 2, 1, 2, 1, 2, 1)},
		{"\x00", runs("\x00", 1)},
		{"\x00\x00a", runs("\x00a", 2, 1)},
		{"a\x00\x00", runs("a\x00", 1, 2)},
		{"\xff\xff\x7f\xff", runs("\xff\x7f\xff", 2, 1, 1)},
		// Bytes count, not characters.
		{"éé", runs("\xc3\xa9\xc3\xa9", 1, 1, 1, 1)},
		// As many bytes, and as many runs, as there may be.
		{strings.Repeat("a", api.MaxWord), runs("a", api.MaxWord)},
		{strings.Repeat("ab", api.MaxWord/2), single(api.MaxWord)},
		{strings.Repeat("a", api.MaxWord-1) + "b", runs("ab", api.MaxWord-1, 1)},
	}
	for _, c := range tests {
		wantRuns(t, c.s, c.want)
		wantWhole(t, c.want, c.s)
	}
}

func TestWhole(t *testing.T) { // P48
	wantWhole(t, nil, "")
	wantWhole(t, []api.Run{}, "")
	wantWhole(t, runs("aba", 2, 1, 2), "aabaa")
	wantWhole(t, runs("\x00\x01\x00", 1, 1, 1), "\x00\x01\x00")
	wantWhole(t, runs("a", api.MaxWord), strings.Repeat("a", api.MaxWord))
	wantWhole(t, single(api.MaxWord), strings.Repeat("ab", api.MaxWord/2))
	for n := 1; n < api.MaxWord; n++ {
		rest := api.MaxWord - n
		wantWhole(t, runs("ab", n, rest), strings.Repeat("a", n)+strings.Repeat("b", rest))
		expectWholeError(t, runs("ab", n, rest+1), api.ErrLarge)
		expectWholeError(t, runs("aba", n, rest, 1), api.ErrLarge)
	}
}

func TestWholeErrors(t *testing.T) { // P1, P2, P48
	tests := []struct {
		l    []api.Run
		want api.Errno
	}{
		{runs("aa", 2, 1), api.ErrForm},
		{runs("\x00\x00", 1, 1), api.ErrForm},
		{runs("\xff\xff", 1, 1), api.ErrForm},
		{runs("abb", 1, 1, 1), api.ErrForm},
		{runs("abaa", 1, 1, 1, 1), api.ErrForm},
		{runs("aa", api.MaxWord, 1), api.ErrForm},
		{runs("ab", api.MaxWord, 1), api.ErrLarge},
		{single(api.MaxWord + 1), api.ErrLarge},
		{single(1 << 16), api.ErrLarge},
		{slices.Repeat(runs("a", 1), 1<<20), api.ErrForm},
	}
	for _, c := range tests {
		expectWholeError(t, c.l, c.want)
	}
	for _, n := range tooSmall() {
		expectWholeError(t, runs("a", n), api.ErrArg)
		expectWholeError(t, runs("\x00", n), api.ErrArg)
		expectWholeError(t, runs("ab", 1, n), api.ErrArg)
		expectWholeError(t, runs("aba", 1, n, 1), api.ErrArg)
	}
	for _, n := range tooLong() {
		expectWholeError(t, runs("a", n), api.ErrLarge)
		expectWholeError(t, runs("ab", 1, n), api.ErrLarge)
		expectWholeError(t, runs("ab", api.MaxWord, n), api.ErrLarge)
	}
}

func TestWholeErrorOrder(t *testing.T) { // P2, P48
	for _, small := range tooSmall() {
		// The length of a run comes before its byte, and both before the room.
		expectWholeError(t, runs("aa", 1, small), api.ErrArg)
		expectWholeError(t, and(single(api.MaxWord), api.Run{B: 'a', N: small}), api.ErrArg)
		expectWholeError(t, and(single(api.MaxWord), api.Run{B: 'b', N: small}), api.ErrArg)
		// The first run with an error counts.
		expectWholeError(t, runs("aab", 1, 1, small), api.ErrForm)
		expectWholeError(t, runs("abb", small, 1, 1), api.ErrArg)
		for _, long := range tooLong() {
			expectWholeError(t, runs("ab", small, long), api.ErrArg)
			expectWholeError(t, runs("ab", long, small), api.ErrLarge)
		}
	}
	for _, long := range tooLong() {
		expectWholeError(t, runs("aa", 1, long), api.ErrForm)
		expectWholeError(t, runs("aa", long, 1), api.ErrLarge)
		expectWholeError(t, runs("aa", long, long), api.ErrLarge)
	}
	expectWholeError(t, and(single(api.MaxWord), runs("bb", 1, 1)...), api.ErrForm)
	expectWholeError(t, and(single(api.MaxWord), runs("aa", 1, 1)...), api.ErrLarge)
}

func TestAllShortWords(t *testing.T) { // P1, P45, P46, P47, P48
	for _, s := range slices.Concat(
		sample.Words("a", 20),
		sample.Words("ab", 9),
		sample.Words("\x00\x80\xff", 5),
		sample.Words("abcd", 4),
	) {
		compareMoves(t, s)
		compareRuns(t, s)
	}
}

func TestLongWords(t *testing.T) { // P1, P45, P46, P47, P48
	for n := 0; n <= api.MaxWord; n += 20 {
		for _, s := range []string{
			strings.Repeat("a", n),
			strings.Repeat("mississippi", n)[:n],
			sample.Fibonacci(n),
			sample.Ramp(n, 1, n),
			sample.Ramp(n, -3, n),
			sample.Ramp(n, 64, n) + sample.Ramp(n, 3, api.MaxWord-n),
			sample.ScatteredWord(n, n, 2),
			sample.ScatteredWord(n, n, 16),
			sample.ScatteredWord(n, n, 256),
		} {
			compareMoves(t, s)
			compareRuns(t, s)
		}
	}
}

func TestEveryByte(t *testing.T) { // P1, P45, P46, P47, P48
	for b := range 256 {
		one := sample.Ramp(b, 1, 1)
		wantPut(t, one+one, []int{b, 0})
		wantGet(t, []int{b, 0}, one+one)
		compareMoves(t, "m"+one+"z"+one)
		// Bytes that differ in one bit only are not the same.
		for bit := range 8 {
			other := sample.Ramp(b^1<<bit, 1, 1)
			compareRuns(t, one+one+other+one)
			expectWholeError(t, runs(one+other+other, 1, 1, 1), api.ErrForm)
		}
	}
}

func TestEveryElement(t *testing.T) { // P1, P45, P46
	for k := range 256 {
		compareGet(t, []int{k, k, k})
		compareGet(t, []int{255, 128, k, 0, 255 - k, k})
	}
	for seed := range 20 {
		compareGet(t, sample.Scattered(seed, 10*seed, 0, 255))
		compareGet(t, sample.Scattered(seed, 10*seed, 0, seed))
	}
}

func TestAllShortLists(t *testing.T) { // P1, P2, P47, P48
	lengths := slices.Concat(tooSmall()[:2], tooLong()[:1], []int{
		math.MinInt, 1, 2, 99, 100, 101, 199, api.MaxWord, math.MaxInt - 1, math.MaxInt,
	})
	var all []api.Run
	for _, n := range lengths {
		all = append(all, runs("\x00\x80a", n, n, n)...)
	}
	for _, a := range all {
		compareWhole(t, []api.Run{a})
		for _, b := range all {
			compareWhole(t, []api.Run{a, b})
			for _, c := range all {
				compareWhole(t, []api.Run{a, b, c})
			}
		}
	}
}

func TestLongLists(t *testing.T) { // P1, P2, P47, P48
	seen := map[api.Errno]int{}
	for seed := range 2000 {
		n := seed % 60
		bytes := sample.ScatteredWord(seed, n, 256)
		// Rarely, a run has no length.
		lengths := sample.Scattered(seed, n, 1, 8)
		for i, k := range sample.Scattered(seed+1, n, 0, 99) {
			lengths[i] *= min(k, 1)
		}
		l := runs(bytes, lengths...)
		_, e := slowWhole(l)
		seen[e]++
		compareWhole(t, l)
	}
	if seen[api.OK] < 100 || seen[api.ErrArg] < 100 || seen[api.ErrForm] < 50 || seen[api.ErrLarge] < 100 {
		t.Error("the lists do not show every case:", seen)
	}
}

func TestTooLarge(t *testing.T) { // P1, P2, P45, P47
	for _, n := range []int{api.MaxWord + 1, api.MaxWord + 2, 256, 65536, 1 << 20} {
		expectTooLarge(t, strings.Repeat("a", n))
		expectTooLarge(t, strings.Repeat("ab", n)[:n])
	}
	expectTooLarge(t, strings.Repeat("é", api.MaxWord/2+1))
}

func TestArgumentsAreLeft(t *testing.T) { // P2
	moves := []int{97, 0, 98, 1, 256, 7}
	movesBefore := slices.Clone(moves)
	wantGet(t, moves[:4], "aaba")
	expectGetError(t, moves[:5], api.ErrArg)
	if !slices.Equal(moves, movesBefore) {
		t.Errorf("the elements became %v", moves)
	}
	rows := runs("abcc", 2, 1, 3, 4)
	rowsBefore := slices.Clone(rows)
	wantWhole(t, rows[:3], "aabccc")
	expectWholeError(t, rows, api.ErrForm)
	if !slices.Equal(rows, rowsBefore) {
		t.Errorf("the runs became %v", rows)
	}
}

func TestResultsAreNewMemory(t *testing.T) { // P2
	words := []string{"aab", "", "banana", "aab", strings.Repeat("ab", api.MaxWord/2)}
	var moves [][]int
	var rows [][]api.Run
	for _, s := range words {
		l, _ := Put(s)
		moves = append(moves, l)
		r, _ := Runs(s)
		rows = append(rows, r)
	}
	for i, s := range words {
		if !slices.Equal(moves[i], slowPut(s)) || !slices.Equal(rows[i], slowRuns(s)) {
			t.Errorf("the results for %q are %v and %v after later calls", s, moves[i], rows[i])
		}
	}
	if !sample.Apart(moves...) || !sample.Apart(rows...) {
		t.Error("results share memory")
	}
	for i := range words {
		clear(moves[i][:cap(moves[i])])
		clear(rows[i][:cap(rows[i])])
	}
	for _, s := range words {
		compareMoves(t, s)
		compareRuns(t, s)
	}
}

func TestNoStateBetweenCalls(t *testing.T) { // P2
	for _, s := range []string{"abab", "", "aaaa", "abab", "b", "abab"} {
		compareMoves(t, s)
		compareRuns(t, s)
		expectTooLarge(t, strings.Repeat("a", api.MaxWord+1))
		expectGetError(t, []int{98, 97, -1}, api.ErrArg)
		expectWholeError(t, runs("abb", 1, 1, 1), api.ErrForm)
		compareMoves(t, s)
		compareRuns(t, s)
	}
}
