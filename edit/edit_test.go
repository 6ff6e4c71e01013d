package edit

import (
	"math"
	"slices"
	"strings"
	"testing"

	"quillward/api"
	"quillward/sample"
)

// The slow functions follow the document's words, so that the fast ones can be
// compared with them. They use nothing of the package.

// slowCheck adds with unsigned numbers, which hold the sum of two numbers that
// are not negative.
func slowCheck(n int, l []api.Edit) api.Errno {
	if n < 0 || n > 200 {
		return api.ErrArg
	}
	if len(l) > 20 {
		return api.ErrLarge
	}
	for i, x := range l {
		if x.At < 0 || x.Del < 0 || uint(x.At)+uint(x.Del) > uint(n) {
			return api.ErrArg
		}
		if len(x.Ins) > 40 {
			return api.ErrLarge
		}
		if x.Del == 0 && len(x.Ins) == 0 {
			return api.ErrEmpty
		}
		if i > 0 && x.At <= l[i-1].At+l[i-1].Del {
			return api.ErrOver
		}
	}
	if len(slowApply(strings.Repeat("a", n), l)) > 200 {
		return api.ErrFull
	}
	return api.OK
}

// slowApply begins with the last edit, so that the positions of those before it
// stay right.
func slowApply(s string, l []api.Edit) string {
	for _, x := range slices.Backward(l) {
		s = s[:x.At] + x.Ins + s[x.At+x.Del:]
	}
	return s
}

// begins returns where what edit i inserts begins in the text after all edits.
func begins(s string, l []api.Edit, i int) int {
	return len(slowApply(s[:l[i].At], l[:i]))
}

func slowUndo(s string, l []api.Edit) ([]api.Edit, api.Errno) {
	var back []api.Edit
	for i, x := range l {
		if x.Del > 40 {
			return nil, api.ErrLarge
		}
		back = append(back, api.Edit{At: begins(s, l, i), Del: len(x.Ins), Ins: s[x.At:][:x.Del]})
	}
	return back, api.OK
}

// slowPlace looks for the byte among others, of which none is the same.
func slowPlace(n int, l []api.Edit, at int) (int, bool, api.Errno) {
	if at < 0 || at > n {
		return 0, false, api.ErrArg
	}
	s := sample.Ramp(0, 1, n+1)
	var marked []api.Edit
	for _, x := range l {
		marked = append(marked, api.Edit{At: x.At, Del: x.Del, Ins: strings.Repeat("\xff", len(x.Ins))})
	}
	if k := strings.IndexByte(slowApply(s, marked), byte(at)); k >= 0 {
		return k, true, api.OK
	}
	i := slices.IndexFunc(l, func(x api.Edit) bool { return at < x.At+x.Del })
	return begins(s, l, i), false, api.OK
}

// slowOf tries longer parts to keep before shorter ones.
func slowOf(s, t string) ([]api.Edit, api.Errno) {
	if len(s) > 200 || len(t) > 200 {
		return nil, api.ErrLarge
	}
	front := min(len(s), len(t))
	for !strings.HasPrefix(s, t[:front]) {
		front--
	}
	back := min(len(s), len(t)) - front
	for !strings.HasSuffix(s, t[len(t)-back:]) {
		back--
	}
	x := api.Edit{At: front, Del: len(s) - back - front, Ins: t[front : len(t)-back]}
	if x.Del == 0 && len(x.Ins) == 0 {
		return nil, api.OK
	}
	if len(x.Ins) > 40 {
		return nil, api.ErrLarge
	}
	return []api.Edit{x}, api.OK
}

func wantCheck(t *testing.T, n int, l []api.Edit, want api.Errno) {
	t.Helper()
	if e := Check(n, l); e != want {
		t.Errorf("Check(%v, %#v) = %v; want %v", n, l, e, want)
	}
}

func wantApply(t *testing.T, s string, l []api.Edit, want string, wantError api.Errno) {
	t.Helper()
	if r, e := Apply(s, l); e != wantError || r != want {
		t.Errorf("Apply(%q, %#v) = %q, %v; want %q, %v", s, l, r, e, want, wantError)
	}
}

func wantUndo(t *testing.T, s string, l, want []api.Edit, wantError api.Errno) {
	t.Helper()
	if back, e := Undo(s, l); e != wantError || !slices.Equal(back, want) {
		t.Errorf("Undo(%q, %#v) = %#v, %v; want %#v, %v", s, l, back, e, want, wantError)
	}
}

func wantPlace(t *testing.T, n int, l []api.Edit, at, want int, wantKept bool, wantError api.Errno) {
	t.Helper()
	if k, kept, e := Place(n, l, at); e != wantError || k != want || kept != wantKept {
		t.Errorf("Place(%v, %#v, %v) = %v, %v, %v; want %v, %v, %v", n, l, at, k, kept, e, want, wantKept, wantError)
	}
}

func wantOf(t *testing.T, s, r string, want []api.Edit, wantError api.Errno) {
	t.Helper()
	if l, e := Of(s, r); e != wantError || !slices.Equal(l, want) {
		t.Errorf("Of(%q, %q) = %#v, %v; want %#v, %v", s, r, l, e, want, wantError)
	}
}

// expectError checks all functions that take l for a string of n bytes.
func expectError(t *testing.T, n int, l []api.Edit, want api.Errno) {
	t.Helper()
	wantCheck(t, n, l, want)
	for _, at := range []int{0, 1, n - 1, n, n + 1, -1, math.MaxInt, math.MinInt} {
		wantPlace(t, n, l, at, 0, false, want)
	}
	if n >= 0 && n < 1<<20 {
		s := sample.Ramp(0, 1, n)
		wantApply(t, s, l, "", want)
		wantUndo(t, s, l, nil, want)
	}
}

// compare checks all functions that take l, which may be wrong for s.
func compare(t *testing.T, s string, l []api.Edit) {
	t.Helper()
	if e := slowCheck(len(s), l); e != api.OK {
		expectError(t, len(s), l, e)
		return
	}
	wantCheck(t, len(s), l, api.OK)
	after := slowApply(s, l)
	wantApply(t, s, l, after, api.OK)
	back, e := slowUndo(s, l)
	wantUndo(t, s, l, back, e)
	if e == api.OK {
		wantApply(t, after, back, s, api.OK)
		wantUndo(t, after, back, l, api.OK)
	}
	for at := -2; at <= len(s)+2; at++ {
		k, kept, e := slowPlace(len(s), l, at)
		wantPlace(t, len(s), l, at, k, kept, e)
	}
}

func compareOf(t *testing.T, s, r string) {
	t.Helper()
	l, e := slowOf(s, r)
	wantOf(t, s, r, l, e)
	if e == api.OK {
		wantApply(t, s, l, r, api.OK)
	}
}

// insertions returns k edits of which each inserts so many bytes.
func insertions(k, bytes int) []api.Edit {
	var l []api.Edit
	for i := range k {
		l = append(l, api.Edit{At: i, Ins: strings.Repeat("x", bytes)})
	}
	return l
}

func ink(n int) string {
	return strings.Repeat("i", n)
}

func TestCheck(t *testing.T) { // P55
	tests := []struct {
		n    int
		l    []api.Edit
		want api.Errno
	}{
		{0, nil, api.OK},
		{5, []api.Edit{}, api.OK},
		{0, []api.Edit{{Ins: "x"}}, api.OK},
		{5, []api.Edit{{Del: 5}}, api.OK},
		{5, []api.Edit{{At: 5, Ins: "x"}}, api.OK},
		{5, []api.Edit{{At: 4, Del: 1}}, api.OK},
		{5, []api.Edit{{Del: 1}, {At: 2, Del: 1}, {At: 4, Del: 1}}, api.OK},
		{5, []api.Edit{{Ins: "x"}, {At: 1, Ins: "y"}, {At: 5, Ins: "z"}}, api.OK},
		{-1, nil, api.ErrArg},
		{201, nil, api.ErrArg},
		{5, []api.Edit{{At: -1, Del: 2}}, api.ErrArg},
		{5, []api.Edit{{At: 1, Del: -1, Ins: "x"}}, api.ErrArg},
		{5, []api.Edit{{At: 6, Ins: "x"}}, api.ErrArg},
		{5, []api.Edit{{At: 5, Del: 1}}, api.ErrArg},
		{5, []api.Edit{{Del: 6}}, api.ErrArg},
		{0, []api.Edit{{Del: 1}}, api.ErrArg},
		{5, []api.Edit{{Ins: ink(41)}}, api.ErrLarge},
		{5, []api.Edit{{}}, api.ErrEmpty},
		{5, []api.Edit{{At: 5}}, api.ErrEmpty},
		// Two edits that touch are one too many.
		{5, []api.Edit{{Del: 1}, {At: 1, Del: 1}}, api.ErrOver},
		{5, []api.Edit{{Ins: "x"}, {Ins: "y"}}, api.ErrOver},
		{5, []api.Edit{{At: 1, Del: 3}, {At: 2, Ins: "x"}}, api.ErrOver},
		{5, []api.Edit{{At: 1, Del: 3}, {At: 4, Ins: "x"}}, api.ErrOver},
		{5, []api.Edit{{At: 3, Del: 1}, {Del: 1}}, api.ErrOver},
		// Only the edit just before counts.
		{5, []api.Edit{{Del: 3}, {At: 4, Ins: "x"}, {At: 3, Ins: "y"}}, api.ErrOver},
		{200, []api.Edit{{Ins: "x"}}, api.ErrFull},
		{199, []api.Edit{{Ins: "xy"}}, api.ErrFull},
		{199, []api.Edit{{Ins: "x"}}, api.OK},
		{200, []api.Edit{{Del: 1, Ins: "xy"}}, api.ErrFull},
		{200, []api.Edit{{Del: 1, Ins: "x"}}, api.OK},
		// What is full in between does not matter.
		{200, []api.Edit{{Ins: "x"}, {At: 199, Del: 1}}, api.OK},
		{200, []api.Edit{{Ins: ink(40)}, {At: 160, Del: 40}}, api.OK},
		{200, []api.Edit{{Ins: ink(40)}, {At: 160, Del: 39}}, api.ErrFull},
	}
	for _, c := range tests {
		wantCheck(t, c.n, c.l, c.want)
	}
}

func TestOrderOfErrors(t *testing.T) { // P1, P2, P55 to P58
	many := make([]api.Edit, 21)
	tests := []struct {
		n    int
		l    []api.Edit
		want api.Errno
	}{
		{-1, many, api.ErrArg},
		{201, many, api.ErrArg},
		{201, []api.Edit{{}}, api.ErrArg},
		{5, many, api.ErrLarge},
		{5, append(many, api.Edit{At: -1}), api.ErrLarge},
		{5, []api.Edit{{At: -1, Ins: ink(41)}}, api.ErrArg},
		{5, []api.Edit{{At: 6}}, api.ErrArg},
		{5, []api.Edit{{Del: 6, Ins: ink(41)}}, api.ErrArg},
		{5, []api.Edit{{Del: 1}, {Del: -1}}, api.ErrArg},
		{5, []api.Edit{{Del: 1}, {Ins: ink(41)}}, api.ErrLarge},
		{5, []api.Edit{{Del: 1}, {At: 1}}, api.ErrEmpty},
		{200, []api.Edit{{Ins: "x"}, {}}, api.ErrEmpty},
		{200, []api.Edit{{Ins: "x"}, {Ins: "x"}}, api.ErrOver},
		{200, []api.Edit{{Ins: ink(41)}}, api.ErrLarge},
		// The first edit with an error counts, whatever its error.
		{5, []api.Edit{{}, {At: -1}}, api.ErrEmpty},
		{5, []api.Edit{{Ins: ink(41)}, {At: -1}}, api.ErrLarge},
		{5, []api.Edit{{Del: 1}, {Del: 1}, {At: -1}}, api.ErrOver},
		{5, []api.Edit{{Del: 1}, {Del: 1}, {}}, api.ErrOver},
		// These come before Undo's own error.
		{200, []api.Edit{{Del: 41}, {At: 41, Del: 1}}, api.ErrOver},
		{200, []api.Edit{{Del: 41}, {At: 43}}, api.ErrEmpty},
		{200, []api.Edit{{Del: 41}, {At: 43, Ins: ink(40)}, {At: 44, Ins: "xy"}}, api.ErrFull},
	}
	for _, c := range tests {
		expectError(t, c.n, c.l, c.want)
	}
}

func TestApply(t *testing.T) { // P56
	tests := []struct {
		s    string
		l    []api.Edit
		want string
	}{
		{"", nil, ""},
		{"abc", nil, "abc"},
		{"abc", []api.Edit{}, "abc"},
		{"", []api.Edit{{Ins: "x"}}, "x"},
		{"abc", []api.Edit{{Del: 3}}, ""},
		{"abc", []api.Edit{{Ins: "x"}}, "xabc"},
		{"abc", []api.Edit{{At: 3, Ins: "x"}}, "abcx"},
		{"abc", []api.Edit{{At: 1, Del: 1, Ins: "xyz"}}, "axyzc"},
		{"abc", []api.Edit{{At: 1, Del: 1, Ins: "b"}}, "abc"},
		{"hello", []api.Edit{{Del: 1, Ins: "J"}, {At: 5, Ins: "!"}}, "Jello!"},
		// The positions are those of the original string.
		{"abcdef", []api.Edit{{Ins: "xyz"}, {At: 2, Del: 2}, {At: 5, Del: 1, Ins: "w"}}, "xyzabew"},
		{"ab", []api.Edit{{Ins: "1"}, {At: 1, Ins: "2"}, {At: 2, Ins: "3"}}, "1a2b3"},
		{"\x00\xff", []api.Edit{{At: 1, Ins: "\x80\x00"}}, "\x00\x80\x00\xff"},
		// Bytes count, not characters.
		{"é", []api.Edit{{At: 1, Del: 1, Ins: "\xa8"}}, "è"},
	}
	for _, c := range tests {
		wantApply(t, c.s, c.l, c.want, api.OK)
	}
}

func TestUndo(t *testing.T) { // P57
	tests := []struct {
		s       string
		l, want []api.Edit
	}{
		{"", nil, nil},
		{"abc", []api.Edit{}, nil},
		{"", []api.Edit{{Ins: "xy"}}, []api.Edit{{Del: 2}}},
		{"abc", []api.Edit{{Del: 3}}, []api.Edit{{Ins: "abc"}}},
		{"abc", []api.Edit{{At: 3, Ins: "x"}}, []api.Edit{{At: 3, Del: 1}}},
		{"abc", []api.Edit{{At: 1, Del: 1, Ins: "xyz"}}, []api.Edit{{At: 1, Del: 3, Ins: "b"}}},
		// An edit that changes nothing is undone by one that changes nothing.
		{"abc", []api.Edit{{At: 1, Del: 1, Ins: "b"}}, []api.Edit{{At: 1, Del: 1, Ins: "b"}}},
		{"hello", []api.Edit{{Del: 1, Ins: "J"}, {At: 5, Ins: "!"}}, []api.Edit{{Del: 1, Ins: "h"}, {At: 5, Del: 1}}},
		{
			"abcdef",
			[]api.Edit{{Ins: "xyz"}, {At: 2, Del: 2}, {At: 5, Del: 1, Ins: "w"}},
			[]api.Edit{{Del: 3}, {At: 5, Ins: "cd"}, {At: 6, Del: 1, Ins: "f"}},
		},
		{"\x00\xff", []api.Edit{{At: 1, Del: 1}}, []api.Edit{{At: 1, Ins: "\xff"}}},
	}
	for _, c := range tests {
		wantUndo(t, c.s, c.l, c.want, api.OK)
	}
}

func TestUndoTooLarge(t *testing.T) { // P1, P2, P57
	s := sample.Ramp(0, 1, api.MaxText)
	for n := 1; n <= api.MaxText; n++ {
		l := []api.Edit{{At: api.MaxText - n, Del: n}}
		if n > api.MaxInk {
			wantUndo(t, s, l, nil, api.ErrLarge)
			wantApply(t, s, l, s[:api.MaxText-n], api.OK)
		} else {
			wantUndo(t, s, l, []api.Edit{{At: api.MaxText - n, Ins: s[api.MaxText-n:]}}, api.OK)
		}
	}
	// Any edit may be too large.
	wantUndo(t, s, []api.Edit{{Del: 41}, {At: 50, Del: 1}, {At: 60, Del: 1}}, nil, api.ErrLarge)
	wantUndo(t, s, []api.Edit{{Del: 1}, {At: 50, Del: 41}, {At: 100, Del: 1}}, nil, api.ErrLarge)
	wantUndo(t, s, []api.Edit{{Del: 1}, {At: 50, Del: 1}, {At: 159, Del: 41}}, nil, api.ErrLarge)
	// Together they may delete more.
	compare(t, s, []api.Edit{{Del: 40}, {At: 41, Del: 40}, {At: 160, Del: 40}})
}

func TestPlace(t *testing.T) { // P58
	l := []api.Edit{{At: 1, Ins: "xyz"}, {At: 2, Del: 3, Ins: "w"}, {At: 7, Del: 1}, {At: 9, Ins: "v"}}
	tests := []struct {
		n    int
		l    []api.Edit
		at   int
		want int
		kept bool
	}{
		{0, nil, 0, 0, true},
		{5, nil, 3, 3, true},
		{5, nil, 5, 5, true},
		{5, []api.Edit{{Del: 1}, {At: 3, Ins: "xy"}}, 3, 4, true},
		// What is inserted at a position comes before its byte, also before
		// the end.
		{0, []api.Edit{{Ins: "xy"}}, 0, 2, true},
		{3, []api.Edit{{At: 3, Ins: "xy"}}, 2, 2, true},
		{3, []api.Edit{{At: 3, Ins: "xy"}}, 3, 5, true},
		{3, []api.Edit{{Del: 3, Ins: "xy"}}, 0, 0, false},
		{3, []api.Edit{{Del: 3, Ins: "xy"}}, 2, 0, false},
		{3, []api.Edit{{Del: 3, Ins: "xy"}}, 3, 2, true},
		{3, []api.Edit{{Del: 3}}, 3, 0, true},
		{9, l, 0, 0, true},
		{9, l, 1, 4, true},
		{9, l, 2, 5, false},
		{9, l, 3, 5, false},
		{9, l, 4, 5, false},
		{9, l, 5, 6, true},
		{9, l, 6, 7, true},
		{9, l, 7, 8, false},
		{9, l, 8, 8, true},
		{9, l, 9, 10, true},
	}
	for _, c := range tests {
		wantPlace(t, c.n, c.l, c.at, c.want, c.kept, api.OK)
	}
}

func TestPlaceOutside(t *testing.T) { // P1, P2, P58
	for _, l := range [][]api.Edit{nil, {{Ins: "xy"}}, {{At: 5, Ins: "xy"}}, {{Del: 5, Ins: ink(40)}}, {{Del: 5}}} {
		for _, at := range []int{-1, -2, 6, 7, 8, math.MinInt, math.MaxInt, math.MinInt32, math.MaxInt32, 1 << 32, -1 << 32} {
			wantPlace(t, 5, l, at, 0, false, api.ErrArg)
		}
	}
	wantPlace(t, 0, nil, 1, 0, false, api.ErrArg)
	wantPlace(t, 0, nil, -1, 0, false, api.ErrArg)
	wantPlace(t, api.MaxText, nil, api.MaxText+1, 0, false, api.ErrArg)
	wantPlace(t, api.MaxText, nil, api.MaxText, api.MaxText, true, api.OK)
}

func TestOf(t *testing.T) { // P59
	tests := []struct {
		s, t string
		want []api.Edit
	}{
		{"", "", nil},
		{"abc", "abc", nil},
		{"abc", "axc", []api.Edit{{At: 1, Del: 1, Ins: "x"}}},
		{"hello", "help", []api.Edit{{At: 3, Del: 2, Ins: "p"}}},
		{"", "abc", []api.Edit{{Ins: "abc"}}},
		{"abc", "", []api.Edit{{Del: 3}}},
		{"abc", "def", []api.Edit{{Del: 3, Ins: "def"}}},
		{"bc", "abc", []api.Edit{{Ins: "a"}}},
		{"ab", "abc", []api.Edit{{At: 2, Ins: "c"}}},
		{"abcde", "abe", []api.Edit{{At: 2, Del: 2}}},
		// What is between is replaced, even if it has something in common.
		{"abcde", "xbcdy", []api.Edit{{Del: 5, Ins: "xbcdy"}}},
		// The prefix comes first, and the suffix does not overlap it.
		{"aa", "aaa", []api.Edit{{At: 2, Ins: "a"}}},
		{"aaa", "aa", []api.Edit{{At: 2, Del: 1}}},
		{"aba", "abaaba", []api.Edit{{At: 3, Ins: "aba"}}},
		{"abab", "ab", []api.Edit{{At: 2, Del: 2}}},
		{"abcbc", "abc", []api.Edit{{At: 3, Del: 2}}},
		{"aba", "aa", []api.Edit{{At: 1, Del: 1}}},
		{"aab", "ab", []api.Edit{{At: 1, Del: 1}}},
		// Bytes count, not characters.
		{"é", "è", []api.Edit{{At: 1, Del: 1, Ins: "\xa8"}}},
		{"\x00a\xff", "\x00\xff", []api.Edit{{At: 1, Del: 1}}},
	}
	for _, c := range tests {
		wantOf(t, c.s, c.t, c.want, api.OK)
	}
}

func TestOfTooLarge(t *testing.T) { // P1, P2, P59
	full := sample.Ramp(0, 1, api.MaxText)
	for _, n := range []int{api.MaxText + 1, api.MaxText + 2, 256, 65536, 1 << 20} {
		large := sample.Ramp(0, 1, n)
		// These differ so little that their size alone is wrong.
		for _, s := range []string{large, large[1:], large[:n-1], full, ""} {
			wantOf(t, s, large, nil, api.ErrLarge)
			wantOf(t, large, s, nil, api.ErrLarge)
		}
	}
	for n := range api.MaxText + 1 {
		compareOf(t, full, full[:n])
		compareOf(t, full, full[n:])
		compareOf(t, full[:n], full)
		compareOf(t, full[n:], full)
		compareOf(t, full, strings.Repeat("\xff", n))
		compareOf(t, "", full[:n])
	}
	wantOf(t, "", full[:40], []api.Edit{{Ins: full[:40]}}, api.OK)
	wantOf(t, "", full[:41], nil, api.ErrLarge)
	wantOf(t, full, "", []api.Edit{{Del: 200}}, api.OK)
	wantOf(t, full, full, nil, api.OK)
}

func TestNumberOfBytes(t *testing.T) { // P1, P55 to P58
	for _, n := range []int{-1, -2, api.MaxText + 1, api.MaxText + 2, 256, 65536, math.MinInt, math.MaxInt, 1 << 32, -1 << 32} {
		for _, l := range [][]api.Edit{nil, {{Ins: "x"}}, {{Del: 1}}, {{}}, {{Del: math.MaxInt}}, insertions(21, 1)} {
			expectError(t, n, l, api.ErrArg)
		}
	}
	for n := range api.MaxText + 1 {
		s := sample.Ramp(n, 1, n)
		for at := range n + 1 {
			expectError(t, n, []api.Edit{{At: at, Del: n - at + 1}}, api.ErrArg)
		}
		for at := range n {
			wantCheck(t, n, []api.Edit{{At: at, Del: n - at}}, api.OK)
		}
		compare(t, s, nil)
		compare(t, s, []api.Edit{{At: n, Ins: "x"}})
		compare(t, s, []api.Edit{{At: n + 1, Ins: "x"}})
		compare(t, s, []api.Edit{{At: n / 2, Del: n - n/2, Ins: ink(40)}})
	}
}

func TestExtremeEdits(t *testing.T) { // P1, P55 to P58
	numbers := []int{
		math.MinInt, math.MinInt + 1, -1 << 32, math.MinInt32, -201, -6, -5, -1, 0, 1, 5, 6, 200, 201,
		math.MaxInt32, 1 << 32, math.MaxInt - 5, math.MaxInt - 1, math.MaxInt,
	}
	for _, at := range numbers {
		for _, del := range numbers {
			for _, text := range []string{"", "x", ink(41)} {
				x := api.Edit{At: at, Del: del, Ins: text}
				for _, s := range []string{"", "abcde", ink(200)} {
					compare(t, s, []api.Edit{x})
					compare(t, s, []api.Edit{{Del: 1}, x})
				}
			}
		}
	}
}

func TestNumberOfEdits(t *testing.T) { // P1, P55 to P58
	s := sample.Ramp(0, 3, 100)
	for k := range api.MaxEdits + 1 {
		compare(t, s, insertions(k, 1))
		wantCheck(t, 100, insertions(k, 1), api.OK)
	}
	for _, k := range []int{21, 22, 100, 256, 65536} {
		expectError(t, 100, insertions(k, 1), api.ErrLarge)
		expectError(t, 100, make([]api.Edit, k), api.ErrLarge)
	}
}

func TestNumberOfInsertedBytes(t *testing.T) { // P1, P55 to P58
	for n := range api.MaxInk + 1 {
		for _, s := range []string{"", "abc", ink(160), ink(161), ink(199), ink(200)} {
			compare(t, s, []api.Edit{{Ins: ink(n)}})
			compare(t, s, []api.Edit{{At: len(s), Ins: ink(n)}})
			compare(t, s, []api.Edit{{Del: min(n, len(s)), Ins: ink(n)}})
		}
	}
	for _, n := range []int{41, 42, 200, 201, 256, 65536} {
		expectError(t, 0, []api.Edit{{Ins: ink(n)}}, api.ErrLarge)
		expectError(t, 200, []api.Edit{{Del: 200, Ins: ink(n)}}, api.ErrLarge)
		expectError(t, 200, []api.Edit{{Del: 1}, {At: 3, Del: 100, Ins: ink(n)}}, api.ErrLarge)
	}
}

func TestFull(t *testing.T) { // P1, P55 to P58
	for k := 1; k <= api.MaxEdits; k++ {
		for bytes := 1; bytes <= api.MaxInk; bytes++ {
			l := insertions(k, bytes)
			room := api.MaxText - k*bytes
			if room < k-1 {
				expectError(t, k-1, l, api.ErrFull)
				continue
			}
			compare(t, sample.Ramp(0, 1, room), l)
			wantCheck(t, room, l, api.OK)
			expectError(t, room+1, l, api.ErrFull)
			expectError(t, api.MaxText, l, api.ErrFull)
		}
	}
}

func TestAllShortScripts(t *testing.T) { // P55 to P58
	for n := range 6 {
		for _, l := range sample.Scripts(0, n, []string{"", "x", "abc"}) {
			if e := slowCheck(n, l); e != api.OK {
				t.Fatalf("%#v is no script for %v bytes: %v", l, n, e)
			}
			compare(t, "abcab"[:n], l)
		}
	}
}

func TestAllShortLists(t *testing.T) { // P1, P2, P55 to P58
	var edits []api.Edit
	for at := -1; at <= 4; at++ {
		for del := -1; del <= 3; del++ {
			for _, text := range []string{"", "x", ink(40), ink(41)} {
				edits = append(edits, api.Edit{At: at, Del: del, Ins: text})
			}
		}
	}
	texts := []string{"abc", sample.Ramp(0, 1, 160), sample.Ramp(0, 1, 161)}
	for _, x := range edits {
		for _, y := range edits {
			for _, s := range texts[:1] {
				compare(t, s, []api.Edit{x, y})
			}
			for _, s := range texts[1:] {
				wantCheck(t, len(s), []api.Edit{x, y}, slowCheck(len(s), []api.Edit{x, y}))
			}
		}
	}
}

func TestLongScripts(t *testing.T) { // P55 to P58
	seen := map[api.Errno]int{}
	for seed := range 400 {
		n := 200 - seed%5*40
		l := sample.ScatteredScript(seed, n, 1+seed%13, 2+seed%11)
		compare(t, sample.ScatteredWord(seed, n, 256), l)
		seen[slowCheck(n, l)]++
	}
	if seen[api.OK] < 100 || seen[api.ErrFull] < 20 {
		t.Errorf("the scripts are not of both kinds: %v", seen)
	}
}

func TestAllShortWords(t *testing.T) { // P59
	for _, c := range []struct {
		signs string
		n     int
	}{{"ab", 6}, {"abc", 4}, {"\x00\x7f\x80\xff", 3}} {
		words := sample.Words(c.signs, c.n)
		for _, s := range words {
			for _, r := range words {
				compareOf(t, s, r)
			}
		}
	}
}

func TestLongWords(t *testing.T) { // P59
	for _, sizes := range [][2]int{{200, 200}, {200, 199}, {160, 200}, {200, 64}, {37, 41}, {1, 200}, {0, 40}, {40, 0}} {
		for _, s := range sample.LongWords(sizes[0]) {
			for _, r := range sample.LongWords(sizes[1]) {
				compareOf(t, s, r)
			}
		}
	}
	for seed := range 400 {
		s := sample.ScatteredWord(seed, 120, 1+seed%3)
		far := 1 + seed%40
		compareOf(t, s, s[:seed%80]+sample.ScatteredWord(seed+1, seed%41, 1+seed%3)+s[seed%80+far:])
	}
}

func TestEveryByte(t *testing.T) { // P56, P57, P59
	for b := range 256 {
		one := sample.Ramp(b, 1, 1)
		// Bytes that differ in one bit only are not the same.
		for bit := range 8 {
			other := sample.Ramp(b^1<<bit, 1, 1)
			l := []api.Edit{{At: 1, Del: 1, Ins: other}}
			wantOf(t, one+one+one, one+other+one, l, api.OK)
			compare(t, one+one+one, l)
		}
	}
}

func TestArgumentsAreLeft(t *testing.T) { // P2
	memory := []api.Edit{{Ins: "x"}, {At: 2, Del: 1}, {At: 4, Del: 1, Ins: "yz"}, {At: 1, Del: 1, Ins: "w"}}
	before := slices.Clone(memory)
	for k := range memory {
		compare(t, "abcdef", memory[:k])
	}
	expectError(t, 6, memory, api.ErrOver)
	if !slices.Equal(memory, before) {
		t.Errorf("the edits became %#v", memory)
	}
}

func TestResultsAreNewMemory(t *testing.T) { // P2
	const s, r = "abcdef", "abxyf"
	l := []api.Edit{{Ins: "x"}, {At: 2, Del: 1}, {At: 4, Del: 1, Ins: "yz"}}
	results := [][]api.Edit{l}
	for range 2 {
		for k := range len(l) + 1 {
			back, _ := Undo(s, l[:k])
			results = append(results, back)
		}
		one, _ := Of(s, r)
		results = append(results, one)
	}
	if !sample.Apart(results...) {
		t.Error("results share memory")
	}
	for _, back := range results[1:] {
		clear(back[:cap(back)])
	}
	compare(t, s, l)
	compareOf(t, s, r)
}

func TestUndoKeepsNothing(t *testing.T) { // P2
	l := []api.Edit{{Ins: "x"}, {At: 2, Del: 1}}
	back, _ := Undo("abc", l)
	clear(l)
	if want := []api.Edit{{Del: 1}, {At: 3, Ins: "c"}}; !slices.Equal(back, want) {
		t.Errorf("the result is %#v after a change of the argument", back)
	}
}

func TestNoStateBetweenCalls(t *testing.T) { // P2
	l := []api.Edit{{At: 1, Del: 2, Ins: "x"}, {At: 4, Ins: "yz"}}
	for _, s := range []string{"abcd", "", ink(200), "abcd", "aaaaaa"} {
		compare(t, "abcd", l)
		compare(t, s, l)
		compareOf(t, s, "abcd")
		compareOf(t, "abcd", s)
		expectError(t, 5, []api.Edit{{Del: 1}, {At: 1, Del: 1}}, api.ErrOver)
		compare(t, s, nil)
	}
}
