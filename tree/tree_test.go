package tree

import (
	"math"
	"slices"
	"testing"

	"quillward/api"
	"quillward/code"
	"quillward/sample"
)

// The slow functions follow the document's words, so that the fast ones can be
// compared with them. They use nothing of the package.

func slowCost(weights, lens []int) int {
	cost := 0
	for i := range weights {
		for range lens[i] {
			cost += weights[i]
		}
	}
	return cost
}

// tryAll returns the minimal cost of all lengths for which there is a code. It
// takes time for everything but short lists.
func tryAll(weights []int) int {
	least := math.MaxInt
	for _, lens := range sample.Numbers(api.MaxBits, len(weights)) {
		if len(lens) != len(weights) {
			continue
		}
		if _, e := code.Make(lens); e == api.OK {
			least = min(least, slowCost(weights, lens))
		}
	}
	return least
}

// leastCost returns the same for lists of any length. It tries all lengths too,
// but lists with the same Kraft sum go on together, with the least of their
// costs.
func leastCost(weights []int) int {
	const all = 1 << api.MaxBits
	least := map[int]int{0: 0}
	for _, w := range weights {
		next := map[int]int{}
		for sum, cost := range least {
			for n := 1; n <= api.MaxBits; n++ {
				longer := sum + all>>n
				known, there := next[longer]
				if longer <= all && (!there || cost+w*n < known) {
					next[longer] = cost + w*n
				}
			}
		}
		least = next
	}
	best := math.MaxInt
	for _, cost := range least {
		best = min(best, cost)
	}
	return best
}

func wantCost(t *testing.T, weights, lens []int, want int) {
	t.Helper()
	if n, e := Cost(weights, lens); e != api.OK || n != want {
		t.Errorf("Cost(%v, %v) = %v, %v; want %v", weights, lens, n, e, want)
	}
}

func wantMake(t *testing.T, weights []int, want []string) {
	t.Helper()
	if l, e := Make(weights); e != api.OK || !slices.Equal(l, want) {
		t.Errorf("Make(%v) = %q, %v; want %q", weights, l, e, want)
	}
}

func wantLens(t *testing.T, weights, want []int) {
	t.Helper()
	if lens, e := Lens(weights); e != api.OK || !slices.Equal(lens, want) {
		t.Errorf("Lens(%v) = %v, %v; want %v", weights, lens, e, want)
	}
}

// wantLeast checks that what Lens and Make return has the given cost.
func wantLeast(t *testing.T, weights []int, cost int) {
	t.Helper()
	lens, e := Lens(weights)
	if e != api.OK || len(lens) != len(weights) {
		t.Errorf("Lens(%v) = %v, %v", weights, lens, e)
		return
	}
	words, e := code.Make(lens)
	if e != api.OK {
		t.Errorf("Lens(%v) = %v, for which code.Make returns %v", weights, lens, e)
		return
	}
	if n := slowCost(weights, lens); n != cost {
		t.Errorf("Lens(%v) = %v with cost %d; want %d", weights, lens, n, cost)
	}
	wantCost(t, weights, lens, cost)
	wantMake(t, weights, words)
	wantLens(t, weights, lens)
}

// expectError checks that each function reports the same error for the weights,
// and no other result.
func expectError(t *testing.T, weights []int, want api.Errno) {
	t.Helper()
	if e := Check(weights); e != want {
		t.Errorf("Check of %d weights = %v; want %v", len(weights), e, want)
	}
	if lens, e := Lens(weights); e != want || len(lens) != 0 {
		t.Errorf("Lens of %d weights = %v, %v; want %v", len(weights), lens, e, want)
	}
	if l, e := Make(weights); e != want || len(l) != 0 {
		t.Errorf("Make of %d weights = %q, %v; want %v", len(weights), l, e, want)
	}
	// Errors of the weights come before all errors of the lengths.
	for _, n := range []int{0, 1, len(weights), api.MaxCodes, api.MaxCodes + 1} {
		for _, length := range []int{1, api.MaxBits, 0} {
			expectCostError(t, weights, slices.Repeat([]int{length}, n), want)
		}
	}
}

func expectCostError(t *testing.T, weights, lens []int, want api.Errno) {
	t.Helper()
	if n, e := Cost(weights, lens); e != want || n != 0 {
		t.Errorf("Cost of %d weights and %d lengths = %v, %v; want %v", len(weights), len(lens), n, e, want)
	}
}

func equal(n, weight int) []int {
	return slices.Repeat([]int{weight}, n)
}

// growing returns n weights that each are about percent of the one before.
func growing(n, percent int) []int {
	weights := make([]int, n)
	last := 100
	for i := range weights {
		weights[i] = min(max(last/100, 1), api.MaxWeight)
		last = last * percent / 100
	}
	return weights
}

// manyWeights returns lists of weights of every length, with small and great,
// like and unlike weights.
func manyWeights() [][]int {
	var lists [][]int
	for n := range api.MaxCodes + 1 {
		lists = append(lists, equal(n, 1), equal(n, api.MaxWeight))
		for _, percent := range []int{50, 101, 110, 130, 150, 162, 180, 199, 200, 220} {
			lists = append(lists, growing(n, percent))
		}
		for seed, most := range []int{2, 3, 5, 10, 30, 100, 1000, api.MaxWeight} {
			lists = append(lists, sample.Scattered(seed, n, 1, most))
		}
	}
	return lists
}

func TestCheck(t *testing.T) { // P36
	for _, weights := range slices.Concat(manyWeights(), [][]int{
		nil,
		{},
		{1},
		{api.MaxWeight},
		{1, api.MaxWeight, 1},
	}) {
		if e := Check(weights); e != api.OK {
			t.Errorf("Check(%v) = %v", weights, e)
		}
	}
}

func TestErrors(t *testing.T) { // P1, P2, P36, P37, P38, P39
	for _, w := range []int{
		0, -1, -api.MaxWeight, api.MaxWeight + 1, 1 << 16, 1<<16 + 1, 1 << 32, 1<<32 + 1,
		math.MaxInt32, math.MinInt32, math.MaxInt, math.MinInt,
	} {
		expectError(t, []int{w}, api.ErrArg)
		expectError(t, []int{1, w}, api.ErrArg)
		expectError(t, []int{w, 1}, api.ErrArg)
		for n := range api.MaxCodes {
			weights := equal(api.MaxCodes, 1)
			weights[n] = w
			expectError(t, weights, api.ErrArg)
		}
		// The number of weights comes before any of them.
		expectError(t, equal(api.MaxCodes, w), api.ErrArg)
		expectError(t, equal(api.MaxCodes+1, w), api.ErrLarge)
		expectError(t, append(equal(api.MaxCodes, 1), w), api.ErrLarge)
		expectError(t, append([]int{w}, equal(api.MaxCodes, 1)...), api.ErrLarge)
	}
	for _, n := range []int{api.MaxCodes + 1, api.MaxCodes + 2, 256, 1 << 16} {
		expectError(t, equal(n, 1), api.ErrLarge)
		expectError(t, equal(n, api.MaxWeight), api.ErrLarge)
		expectError(t, make([]int, n), api.ErrLarge)
	}
}

func TestCostErrors(t *testing.T) { // P1, P2, P38
	for _, n := range []int{
		0, -1, api.MaxBits + 1, 64, 1 << 32, 1<<32 + 1,
		math.MaxInt32, math.MinInt32, math.MaxInt, math.MinInt,
	} {
		for _, weights := range [][]int{nil, {1}, {1, 2}, equal(api.MaxCodes, 1)} {
			// A length out of its range comes before different numbers.
			expectCostError(t, weights, []int{n}, api.ErrArg)
			expectCostError(t, weights, []int{1, n}, api.ErrArg)
			expectCostError(t, weights, append(equal(api.MaxCodes-1, 12), n), api.ErrArg)
			// The number of lengths comes before any of them.
			expectCostError(t, weights, equal(api.MaxCodes+1, n), api.ErrLarge)
			expectCostError(t, weights, equal(1<<16, n), api.ErrLarge)
		}
	}
	for weights := range api.MaxCodes + 1 {
		expectCostError(t, equal(weights, 1), equal(api.MaxCodes+1, 1), api.ErrLarge)
		for lens := range api.MaxCodes + 1 {
			if lens != weights {
				expectCostError(t, equal(weights, 1), equal(lens, 1), api.ErrForm)
				expectCostError(t, equal(weights, 1), equal(lens, api.MaxBits), api.ErrForm)
			}
		}
	}
}

func TestCost(t *testing.T) { // P38
	tests := []struct {
		weights, lens []int
		want          int
	}{
		{nil, nil, 0},
		{[]int{}, nil, 0},
		{[]int{7}, []int{1}, 7},
		{[]int{7}, []int{12}, 84},
		{[]int{1, 1, 2}, []int{2, 2, 1}, 6},
		{[]int{1, 1, 2}, []int{1, 2, 2}, 7},
		{[]int{1, 10, 100}, []int{3, 5, 7}, 753},
		// There need not be a code with these lengths.
		{[]int{1, 10, 100}, []int{1, 1, 1}, 111},
		{equal(api.MaxCodes, 1), equal(api.MaxCodes, 1), 12},
		{equal(api.MaxCodes, api.MaxWeight), equal(api.MaxCodes, api.MaxBits), 1440000},
	}
	for _, c := range tests {
		wantCost(t, c.weights, c.lens, c.want)
	}
	for _, weights := range manyWeights() {
		for seed := range 5 {
			lens := sample.Scattered(seed, len(weights), 1, api.MaxBits)
			wantCost(t, weights, lens, slowCost(weights, lens))
		}
	}
}

// For these weights only one list of lengths has minimal cost.
func TestLens(t *testing.T) { // P37, P39
	tests := []struct {
		weights, lens []int
		words         []string
	}{
		{nil, nil, nil},
		{[]int{}, nil, nil},
		// A code word has at least one bit.
		{[]int{1}, []int{1}, []string{"0"}},
		{[]int{api.MaxWeight}, []int{1}, []string{"0"}},
		{[]int{1, 1}, []int{1, 1}, []string{"0", "1"}},
		{[]int{1, api.MaxWeight}, []int{1, 1}, []string{"0", "1"}},
		{[]int{1, 1, 2}, []int{2, 2, 1}, []string{"10", "11", "0"}},
		{[]int{2, 1, 1}, []int{1, 2, 2}, []string{"0", "10", "11"}},
		{[]int{1, 2, 1}, []int{2, 1, 2}, []string{"10", "0", "11"}},
		{[]int{5, 1, 1, 2}, []int{1, 3, 3, 2}, []string{"0", "110", "111", "10"}},
		{[]int{3, 3, 3, 3}, []int{2, 2, 2, 2}, []string{"00", "01", "10", "11"}},
		{[]int{4, 5, 6, 8}, []int{2, 2, 2, 2}, []string{"00", "01", "10", "11"}},
		{[]int{4, 5, 6, 16}, []int{3, 3, 2, 1}, []string{"110", "111", "10", "0"}},
		{equal(8, 9), equal(8, 3), []string{"000", "001", "010", "011", "100", "101", "110", "111"}},
	}
	for _, c := range tests {
		wantLens(t, c.weights, c.lens)
		wantMake(t, c.weights, c.words)
		wantLeast(t, c.weights, slowCost(c.weights, c.lens))
	}
}

// Weights that double need the longest code words.
func TestDeepTrees(t *testing.T) { // P37, P39
	var weights, lens []int
	for n := range api.MaxCodes {
		weights = append(weights, 1<<n)
		lens = append(lens, api.MaxCodes-n)
	}
	lens[0] = api.MaxCodes - 1
	wantLens(t, weights, lens)
	slices.Reverse(weights)
	slices.Reverse(lens)
	wantLens(t, weights, lens)
	wantMake(t, weights, []string{
		"0", "10", "110", "1110", "11110", "111110", "1111110", "11111110",
		"111111110", "1111111110", "11111111110", "11111111111",
	})
}

func TestAllSmallWeights(t *testing.T) { // P1, P37, P38, P39
	for _, weights := range slices.Concat(sample.Numbers(7, 3), sample.Numbers(2, 4)) {
		least := tryAll(weights)
		wantLeast(t, weights, least)
		if leastCost(weights) != least {
			t.Errorf("the slow versions disagree about %v", weights)
		}
	}
	for _, weights := range slices.Concat(sample.Numbers(5, 4), sample.Numbers(3, 6)) {
		wantLeast(t, weights, leastCost(weights))
	}
}

// The cost is minimal in each order of the weights.
func TestManyWeights(t *testing.T) { // P1, P37, P38, P39
	for _, weights := range manyWeights() {
		least := leastCost(weights)
		wantLeast(t, weights, least)
		backwards := slices.Clone(weights)
		slices.Reverse(backwards)
		wantLeast(t, backwards, least)
		for n := range weights {
			turned := slices.Concat(weights[n:], weights[:n])
			wantLeast(t, turned, least)
		}
	}
}

func TestArgumentsAreLeft(t *testing.T) { // P2
	weights, lens := []int{5, 1, 2, 7, 8}, []int{3, 1, 2, 9, 9}
	if e := Check(weights[:3]); e != api.OK {
		t.Error(e)
	}
	wantLens(t, weights[:3], []int{1, 2, 2})
	wantMake(t, weights[:3], []string{"0", "10", "11"})
	wantCost(t, weights[:3], lens[:3], 20)
	if !slices.Equal(weights, []int{5, 1, 2, 7, 8}) {
		t.Errorf("the weights became %v", weights)
	}
	if !slices.Equal(lens, []int{3, 1, 2, 9, 9}) {
		t.Errorf("the lengths became %v", lens)
	}
}

func TestResultsAreNewMemory(t *testing.T) { // P2
	lists := [][]int{{5, 1, 1, 2}, nil, {1}, {2}, {5, 1, 1, 2}, {1, 1}}
	wants := [][]int{{1, 3, 3, 2}, nil, {1}, {1}, {1, 3, 3, 2}, {1, 1}}
	var lens [][]int
	var words [][]string
	for _, weights := range lists {
		l, _ := Lens(weights)
		lens = append(lens, l)
		w, _ := Make(weights)
		words = append(words, w)
	}
	if !slices.EqualFunc(lens, wants, slices.Equal) {
		t.Errorf("the lengths are %v after later calls; want %v", lens, wants)
	}
	if !sample.Apart(slices.Concat(lens, lists)...) || !sample.Apart(words...) {
		t.Error("results share memory")
	}
	for i := range lists {
		clear(lens[i][:cap(lens[i])])
		clear(words[i][:cap(words[i])])
	}
	for i, weights := range lists {
		wantLens(t, weights, wants[i])
		wantLeast(t, weights, leastCost(weights))
	}
}

func TestNoStateBetweenCalls(t *testing.T) { // P2
	lists := manyWeights()
	var firsts [][]int
	for _, weights := range lists {
		lens, _ := Lens(weights)
		firsts = append(firsts, slices.Clone(lens))
	}
	for i, weights := range slices.Backward(lists) {
		for range 2 {
			wantLens(t, weights, firsts[i])
			if len(weights) < api.MaxCodes {
				expectError(t, append(slices.Clone(weights), 0), api.ErrArg)
			}
			expectError(t, equal(api.MaxCodes+1, 1), api.ErrLarge)
		}
	}
}
