// Package sample: inputs and a check that the tests of several packages share.
package sample

import "slices"

// Words returns every word over the signs with at most n bytes.
func Words(signs string, n int) []string {
	words := []string{""}
	for from := 0; n > 0; n-- {
		to := len(words)
		for _, w := range words[from:to] {
			for i := range len(signs) {
				words = append(words, w+signs[i:i+1])
			}
		}
		from = to
	}
	return words
}

// Lists returns every list of at most n of the words, in every order, with no
// word twice.
func Lists(words []string, n int) [][]string {
	lists := [][]string{nil}
	for from := 0; n > 0; n-- {
		to := len(lists)
		for _, l := range lists[from:to] {
			for _, w := range words {
				if !slices.Contains(l, w) {
					lists = append(lists, append(slices.Clone(l), w))
				}
			}
		}
		from = to
	}
	return lists
}

// Numbers returns every list of at most n numbers from 1 to most.
func Numbers(most, n int) [][]int {
	lists := [][]int{nil}
	for from := 0; n > 0; n-- {
		to := len(lists)
		for _, l := range lists[from:to] {
			for k := 1; k <= most; k++ {
				lists = append(lists, append(slices.Clone(l), k))
			}
		}
		from = to
	}
	return lists
}

// Fibonacci returns the first n bytes of the Fibonacci word, which has many
// borders.
func Fibonacci(n int) string {
	a, b := "a", "ab"
	for len(b) < n {
		a, b = b, b+a
	}
	return b[:n]
}

// Ramp returns n bytes that go up from first by step, and wrap around.
func Ramp(first, step, n int) string {
	text := make([]byte, n)
	for i := range text {
		text[i] = byte(first + step*i)
	}
	return string(text)
}

// Apart says whether no two of the lists share memory, with their spare
// capacity.
func Apart[T any](lists ...[]T) bool {
	seen := map[*T]bool{}
	for _, l := range lists {
		l = l[:cap(l)]
		for i := range l {
			if seen[&l[i]] {
				return false
			}
			seen[&l[i]] = true
		}
	}
	return true
}
