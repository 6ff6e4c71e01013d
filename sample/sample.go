// Package sample: inputs and a check that the tests of several packages share.
package sample

import (
	"math"
	"slices"
	"strings"

	"quillward/api"
)

// Words returns every word over the signs with at most n bytes.
func Words(signs string, n int) []string {
	words := []string{""}
	for from := 0; n > 0; n-- {
		to := len(words)
		for _, w := range words[from:to] {
			for i := range len(signs) {
				words = append(words, w+signs[i:i+1])
			}
		}
		from = to
	}
	return words
}

// Lists returns every list of at most n of the words, in every order, with no
// word twice.
func Lists(words []string, n int) [][]string {
	lists := [][]string{nil}
	for from := 0; n > 0; n-- {
		to := len(lists)
		for _, l := range lists[from:to] {
			for _, w := range words {
				if !slices.Contains(l, w) {
					lists = append(lists, append(slices.Clone(l), w))
				}
			}
		}
		from = to
	}
	return lists
}

// Numbers returns every list of at most n numbers from 1 to most.
func Numbers(most, n int) [][]int {
	lists := [][]int{nil}
	for from := 0; n > 0; n-- {
		to := len(lists)
		for _, l := range lists[from:to] {
			for k := 1; k <= most; k++ {
				lists = append(lists, append(slices.Clone(l), k))
			}
		}
		from = to
	}
	return lists
}

// Scattered returns n numbers from low to high in no particular order, other
// ones for each seed.
func Scattered(seed, n, low, high int) []int {
	numbers := make([]int, n)
	x := seed*7919 + 1
	for i := range numbers {
		x = (x*1103515245 + 12345) % (1 << 31)
		numbers[i] = low + x>>8%(high-low+1)
	}
	return numbers
}

// ScatteredWord returns n bytes of so many kinds in no particular order, other
// ones for each seed.
func ScatteredWord(seed, n, signs int) string {
	text := make([]byte, n)
	for i, b := range Scattered(seed, n, 0, signs-1) {
		text[i] = byte(b)
	}
	return string(text)
}

// Bits returns n different words with 5 bits, of which there are 32.
func Bits(n int) []string {
	words := Words("01", 5)
	return words[len(words)-32:][:n]
}

// Lengths returns lists with 12 lengths of code words for which there is a
// prefix-free code, most of them with long words.
func Lengths() [][]int {
	return [][]int{
		{1, 2, 3, 4, 5, 6, 7, 8, 9, 10, 11, 12},
		{1, 2, 3, 4, 5, 6, 7, 8, 9, 10, 11, 11},
		{2, 3, 4, 5, 6, 7, 8, 9, 10, 11, 12, 12},
		{12, 1, 12, 2, 11, 3, 10, 4, 9, 5, 8, 6},
		{3, 3, 3, 3, 4, 4, 4, 4, 4, 4, 4, 4},
		{4, 4, 4, 4, 3, 3, 3, 3, 4, 4, 4, 4},
		{2, 5, 2, 5, 2, 5, 5, 6, 6, 6, 7, 7},
		{12, 12, 12, 12, 12, 12, 12, 12, 12, 12, 12, 12},
		{12, 11, 10, 9, 8, 7, 6, 5, 4, 3, 2, 12},
		{6, 12, 6, 12, 6, 12, 6, 12, 6, 12, 6, 12},
	}
}

// Fibonacci returns the first n bytes of the Fibonacci word, which has many
// borders.
func Fibonacci(n int) string {
	a, b := "a", "ab"
	for len(b) < n {
		a, b = b, b+a
	}
	return b[:n]
}

// Ramp returns n bytes that go up from first by step, and wrap around.
func Ramp(first, step, n int) string {
	text := make([]byte, n)
	for i := range text {
		text[i] = byte(first + step*i)
	}
	return string(text)
}

// LongWords returns words with n bytes, of which some have much in common.
func LongWords(n int) []string {
	return []string{
		strings.Repeat("a", n),
		strings.Repeat("ab", n)[:n],
		strings.Repeat("ba", n)[:n],
		strings.Repeat("mississippi", n)[:n],
		Fibonacci(n),
		Ramp(n, 1, n),
		Ramp(n, -3, n),
		ScatteredWord(n, n, 2),
		ScatteredWord(n+1, n, 2),
		ScatteredWord(n, n, 16),
		ScatteredWord(n+1, n, 256),
	}
}

// Scripts returns every script for n bytes that begins at from or later and
// inserts nothing but the inks.
func Scripts(from, n int, inks []string) [][]api.Edit {
	found := [][]api.Edit{nil}
	for at := from; at <= n; at++ {
		for end := at; end <= n; end++ {
			rest := Scripts(end+1, n, inks)
			for _, ink := range inks {
				if at == end && ink == "" {
					continue
				}
				for _, l := range rest {
					found = append(found, append([]api.Edit{{At: at, Del: end - at, Ins: ink}}, l...))
				}
			}
		}
	}
	return found
}

// ScatteredScript returns as many edits as there may be if they end before n,
// other ones for each seed. The text after them may be too long.
func ScatteredScript(seed, n, far, ink int) []api.Edit {
	var l []api.Edit
	numbers := Scattered(seed, 3*api.MaxEdits, 0, math.MaxInt32)
	at := numbers[0] % far
	for ; len(l) < api.MaxEdits && at < n; numbers = numbers[3:] {
		x := api.Edit{At: at, Del: min(numbers[0]%far, n-at), Ins: Ramp(200+at, 1, numbers[1]%ink)}
		if x.Del == 0 && x.Ins == "" {
			x.Del = 1
		}
		l = append(l, x)
		at = x.At + x.Del + 1 + numbers[2]%far
	}
	return l
}

// Apart says whether no two of the lists share memory, with their spare
// capacity.
func Apart[T any](lists ...[]T) bool {
	seen := map[*T]bool{}
	for _, l := range lists {
		l = l[:cap(l)]
		for i := range l {
			if seen[&l[i]] {
				return false
			}
			seen[&l[i]] = true
		}
	}
	return true
}
