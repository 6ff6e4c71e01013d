// Package word: what comes again in a word: see doc/01-word.md.
package word

import "quillward/api"

// Check says whether s is short enough to be a word: P3.
func Check(s string) api.Errno {
	if len(s) > api.MaxWord {
		return api.ErrLarge
	}
	return api.OK
}

// Borders returns the length of the longest border of each non-empty prefix of s: P4.
func Borders(s string) ([]int, api.Errno) {
	if e := Check(s); e != api.OK {
		return nil, e
	}
	return borders(s), api.OK
}

// Periods returns the periods of s in increasing order: P5.
func Periods(s string) ([]int, api.Errno) {
	if e := Check(s); e != api.OK {
		return nil, e
	}
	return periods(s), api.OK
}

// Root returns the shortest string that s repeats, and how often: P6.
func Root(s string) (string, int, api.Errno) {
	if e := Check(s); e != api.OK {
		return "", 0, e
	}
	if s == "" {
		return "", 0, api.OK
	}
	d := rootLength(s)
	return s[:d], len(s) / d, api.OK
}

func borders(s string) []int {
	lengths := make([]int, len(s))
	for i := 1; i < len(s); i++ {
		// A border of s[:i+1] without its last byte is a border of s[:i],
		// so only those can grow, the longest of them first.
		k := lengths[i-1]
		for k > 0 && s[k] != s[i] {
			k = lengths[k-1]
		}
		if s[k] == s[i] {
			k++
		}
		lengths[i] = k
	}
	return lengths
}

func periods(s string) []int {
	lengths := borders(s)
	var found []int
	// The periods are the length of s less that of each border, down to the
	// empty one: as the borders get shorter, the periods come in order.
	for k := len(s); k > 0; {
		k = lengths[k-1]
		found = append(found, len(s)-k)
	}
	return found
}

// rootLength expects a non-empty s.
func rootLength(s string) int {
	// If any proper period divides the length, then so does the least one:
	// two periods with a sum of at most the length have their greatest
	// common divisor as a period too.
	least := periods(s)[0]
	if len(s)%least == 0 {
		return least
	}
	return len(s)
}
