package merge

import (
	"math"
	"slices"
	"strings"
	"testing"

	"quillward/api"
	"quillward/edit"
	"quillward/sample"
)

// The slow functions follow the document's words, so that the fast ones can be
// compared with them. They use nothing of the package.

func slowCheck(n int, a, b []api.Edit) api.Errno {
	for _, l := range [][]api.Edit{a, b} {
		if e := edit.Check(n, l); e != api.OK {
			return e
		}
	}
	return api.OK
}

// conflict looks for a position that both edits reach.
func conflict(x, y api.Edit) bool {
	for at := x.At; at <= x.At+x.Del; at++ {
		if y.At <= at && at <= y.At+y.Del {
			return x != y
		}
	}
	return false
}

// slowBoth collects the edits from one position to the next.
func slowBoth(n int, a, b []api.Edit) ([]api.Edit, api.Errno) {
	if e := slowCheck(n, a, b); e != api.OK {
		return nil, e
	}
	for _, x := range a {
		if slices.ContainsFunc(b, func(y api.Edit) bool { return conflict(x, y) }) {
			return nil, api.ErrClash
		}
	}
	var l []api.Edit
	for at := range n + 1 {
		for _, x := range slices.Concat(a, b) {
			if x.At == at && !slices.Contains(l, x) {
				l = append(l, x)
			}
		}
	}
	if e := edit.Check(n, l); e != api.OK {
		return nil, e
	}
	return l, api.OK
}

// slowBehind counts the bytes by which each edit is moved.
func slowBehind(n int, a, b []api.Edit) ([]api.Edit, api.Errno) {
	if _, e := slowBoth(n, a, b); e != api.OK {
		return nil, e
	}
	var l []api.Edit
	for _, x := range b {
		moved := x
		for _, y := range a {
			if y.At < x.At {
				moved.At += len(y.Ins) - y.Del
			}
		}
		if !slices.Contains(a, x) {
			l = append(l, moved)
		}
	}
	return l, api.OK
}

func wantCheck(t *testing.T, n int, a, b []api.Edit, want api.Errno) {
	t.Helper()
	if e := Check(n, a, b); e != want {
		t.Errorf("Check(%v, %#v, %#v) = %v; want %v", n, a, b, e, want)
	}
}

func wantBoth(t *testing.T, n int, a, b, want []api.Edit, wantError api.Errno) {
	t.Helper()
	if l, e := Both(n, a, b); e != wantError || !slices.Equal(l, want) {
		t.Errorf("Both(%v, %#v, %#v) = %#v, %v; want %#v, %v", n, a, b, l, e, want, wantError)
	}
}

func wantBehind(t *testing.T, n int, a, b, want []api.Edit, wantError api.Errno) {
	t.Helper()
	if l, e := Behind(n, a, b); e != wantError || !slices.Equal(l, want) {
		t.Errorf("Behind(%v, %#v, %#v) = %#v, %v; want %#v, %v", n, a, b, l, e, want, wantError)
	}
}

// expectWrong is for lists of which one is no script.
func expectWrong(t *testing.T, n int, a, b []api.Edit, want api.Errno) {
	t.Helper()
	wantCheck(t, n, a, b, want)
	wantBoth(t, n, a, b, nil, want)
	wantBehind(t, n, a, b, nil, want)
}

// expectApart is for two scripts that cannot be merged.
func expectApart(t *testing.T, n int, a, b []api.Edit, want api.Errno) {
	t.Helper()
	for range 2 {
		wantCheck(t, n, a, b, api.OK)
		wantBoth(t, n, a, b, nil, want)
		wantBehind(t, n, a, b, nil, want)
		a, b = b, a
	}
}

// expectMerged is for two scripts that can be merged.
func expectMerged(t *testing.T, n int, a, b, both []api.Edit) {
	t.Helper()
	for range 2 {
		wantCheck(t, n, a, b, api.OK)
		wantBoth(t, n, a, b, both, api.OK)
		expectSameText(t, n, a, b)
		a, b = b, a
	}
}

// expectSameText checks that b behind a makes the text that both make.
func expectSameText(t *testing.T, n int, a, b []api.Edit) {
	t.Helper()
	s := sample.Ramp(0, 1, n)
	both, _ := Both(n, a, b)
	want, _ := edit.Apply(s, both)
	half, _ := edit.Apply(s, a)
	rest, e := Behind(n, a, b)
	if e != api.OK {
		t.Errorf("Behind(%v, %#v, %#v) = %v", n, a, b, e)
	}
	if text, e := edit.Apply(half, rest); e != api.OK || text != want {
		t.Errorf("%#v behind %#v makes %q, %v; both make %q", b, a, text, e, want)
	}
}

// compare checks all functions for a and b, which may be wrong, and returns the
// error that they have.
func compare(t *testing.T, n int, a, b []api.Edit) api.Errno {
	t.Helper()
	wantCheck(t, n, a, b, slowCheck(n, a, b))
	both, e := slowBoth(n, a, b)
	wantBoth(t, n, a, b, both, e)
	rest, e := slowBehind(n, a, b)
	wantBehind(t, n, a, b, rest, e)
	if e == api.OK {
		expectSameText(t, n, a, b)
	}
	return e
}

// insertions returns k edits that each insert so many bytes, the first of them
// at from and each other one two bytes after the one before it.
func insertions(from, k, bytes int) []api.Edit {
	var l []api.Edit
	for i := range k {
		l = append(l, api.Edit{At: from + 2*i, Ins: ink(bytes)})
	}
	return l
}

func ink(n int) string {
	return strings.Repeat("i", n)
}

// moved returns l with each edit so many bytes later.
func moved(l []api.Edit, by int) []api.Edit {
	l = slices.Clone(l)
	for i := range l {
		l[i].At += by
	}
	return l
}

// shared deals the edits of l out to one script, to another one or to both.
func shared(seed int, l []api.Edit) (a, b []api.Edit) {
	for i, to := range sample.Scattered(seed, len(l), 0, 4) {
		if to != 0 && to != 1 {
			a = append(a, l[i])
		}
		if to != 2 && to != 3 {
			b = append(b, l[i])
		}
	}
	return a, b
}

func TestBoth(t *testing.T) { // P62, P63
	tests := []struct {
		n          int
		a, b, both []api.Edit
	}{
		{0, nil, nil, nil},
		{5, nil, []api.Edit{}, nil},
		{5, []api.Edit{{Ins: "x"}}, nil, []api.Edit{{Ins: "x"}}},
		{5, []api.Edit{{Ins: "x"}}, []api.Edit{{At: 2, Del: 1}}, []api.Edit{{Ins: "x"}, {At: 2, Del: 1}}},
		{
			5,
			[]api.Edit{{Ins: "x"}, {At: 4, Del: 1}},
			[]api.Edit{{At: 2, Del: 1, Ins: "yz"}},
			[]api.Edit{{Ins: "x"}, {At: 2, Del: 1, Ins: "yz"}, {At: 4, Del: 1}},
		},
		// What both do is done once.
		{0, []api.Edit{{Ins: "x"}}, []api.Edit{{Ins: "x"}}, []api.Edit{{Ins: "x"}}},
		{5, []api.Edit{{Del: 5}}, []api.Edit{{Del: 5}}, []api.Edit{{Del: 5}}},
		{
			9,
			[]api.Edit{{At: 2, Del: 1}, {At: 4, Ins: "x"}, {At: 9, Ins: "x"}},
			[]api.Edit{{Ins: "x"}, {At: 4, Ins: "x"}, {At: 7, Del: 1}},
			[]api.Edit{{Ins: "x"}, {At: 2, Del: 1}, {At: 4, Ins: "x"}, {At: 7, Del: 1}, {At: 9, Ins: "x"}},
		},
		// One byte between two edits is enough.
		{5, []api.Edit{{At: 1, Del: 2}}, []api.Edit{{Ins: "x"}, {At: 4, Ins: "y"}}, []api.Edit{{Ins: "x"}, {At: 1, Del: 2}, {At: 4, Ins: "y"}}},
		{3, []api.Edit{{Del: 1}}, []api.Edit{{At: 2, Del: 1}}, []api.Edit{{Del: 1}, {At: 2, Del: 1}}},
		{1, []api.Edit{{Ins: "x"}}, []api.Edit{{At: 1, Ins: "x"}}, []api.Edit{{Ins: "x"}, {At: 1, Ins: "x"}}},
	}
	for _, c := range tests {
		expectMerged(t, c.n, c.a, c.b, c.both)
	}
}

func TestClash(t *testing.T) { // P2, P62 to P64
	tests := []struct {
		n    int
		a, b []api.Edit
	}{
		{5, []api.Edit{{Del: 2}}, []api.Edit{{At: 1, Del: 2}}},
		{5, []api.Edit{{Del: 5}}, []api.Edit{{At: 2, Del: 1}}},
		{5, []api.Edit{{Del: 3}}, []api.Edit{{At: 2, Ins: "x"}}},
		// Edits that touch conflict, too.
		{5, []api.Edit{{Del: 2}}, []api.Edit{{At: 2, Del: 1}}},
		{5, []api.Edit{{Del: 2}}, []api.Edit{{At: 2, Ins: "x"}}},
		{5, []api.Edit{{At: 2, Del: 2}}, []api.Edit{{At: 2, Ins: "x"}}},
		// Edits at one place conflict unless they are equal in all.
		{0, []api.Edit{{Ins: "x"}}, []api.Edit{{Ins: "y"}}},
		{5, []api.Edit{{At: 3, Ins: "x"}}, []api.Edit{{At: 3, Ins: "xx"}}},
		{5, []api.Edit{{At: 1, Del: 2}}, []api.Edit{{At: 1, Del: 3}}},
		{5, []api.Edit{{At: 1, Del: 2}}, []api.Edit{{At: 1, Del: 2, Ins: "x"}}},
		{5, []api.Edit{{At: 5, Ins: "x"}}, []api.Edit{{At: 4, Del: 1}}},
		// One conflict is enough, whatever else there is.
		{9, []api.Edit{{Ins: "x"}, {At: 4, Del: 1}}, []api.Edit{{Ins: "x"}, {At: 2, Del: 1}, {At: 5, Ins: "y"}}},
		{9, []api.Edit{{Del: 1}, {At: 4, Del: 1}, {At: 7, Del: 1}}, []api.Edit{{At: 2, Ins: "x"}, {At: 8, Del: 1}}},
	}
	for _, c := range tests {
		expectApart(t, c.n, c.a, c.b, api.ErrClash)
	}
}

func TestBehind(t *testing.T) { // P64
	tests := []struct {
		n            int
		a, b, ab, ba []api.Edit
	}{
		{0, nil, nil, nil, nil},
		{5, []api.Edit{{Ins: "x"}}, []api.Edit{{At: 2, Del: 1}}, []api.Edit{{At: 3, Del: 1}}, []api.Edit{{Ins: "x"}}},
		{5, []api.Edit{{Del: 3}}, []api.Edit{{At: 4, Ins: "y"}}, []api.Edit{{At: 1, Ins: "y"}}, []api.Edit{{Del: 3}}},
		{5, []api.Edit{{Del: 1, Ins: "xyz"}}, []api.Edit{{At: 3, Del: 1}}, []api.Edit{{At: 5, Del: 1}}, []api.Edit{{Del: 1, Ins: "xyz"}}},
		{5, []api.Edit{{Ins: "x"}}, nil, nil, []api.Edit{{Ins: "x"}}},
		// Nothing remains of what both do.
		{0, []api.Edit{{Ins: "x"}}, []api.Edit{{Ins: "x"}}, nil, nil},
		{5, []api.Edit{{Ins: "x"}, {At: 2, Del: 1}}, []api.Edit{{Ins: "x"}}, nil, []api.Edit{{At: 3, Del: 1}}},
		// An edit that both do moves the others like any one of a.
		{
			9,
			[]api.Edit{{At: 1, Ins: "xy"}, {At: 4, Del: 1}},
			[]api.Edit{{Ins: "z"}, {At: 4, Del: 1}, {At: 9, Ins: "w"}},
			[]api.Edit{{Ins: "z"}, {At: 10, Ins: "w"}},
			[]api.Edit{{At: 2, Ins: "xy"}},
		},
		{
			9,
			[]api.Edit{{At: 1, Del: 2}, {At: 5, Ins: "xyz"}, {At: 8, Del: 1}},
			[]api.Edit{{Ins: "u"}, {At: 4, Ins: "v"}, {At: 6, Del: 1}},
			[]api.Edit{{Ins: "u"}, {At: 2, Ins: "v"}, {At: 7, Del: 1}},
			[]api.Edit{{At: 2, Del: 2}, {At: 7, Ins: "xyz"}, {At: 9, Del: 1}},
		},
	}
	for _, c := range tests {
		wantBehind(t, c.n, c.a, c.b, c.ab, api.OK)
		wantBehind(t, c.n, c.b, c.a, c.ba, api.OK)
		compare(t, c.n, c.a, c.b)
		compare(t, c.n, c.b, c.a)
	}
}

func TestOrderOfErrors(t *testing.T) { // P1, P2, P62 to P64
	good, full := []api.Edit{{Ins: "x"}}, []api.Edit{{Ins: ink(40)}}
	empty, over := []api.Edit{{}}, []api.Edit{{Del: 2}, {At: 1, Ins: "x"}}
	far, large := []api.Edit{{At: 201, Ins: "x"}}, []api.Edit{{Ins: ink(41)}}
	tests := []struct {
		n    int
		a, b []api.Edit
		want api.Errno
	}{
		{-1, good, good, api.ErrArg},
		{201, make([]api.Edit, 21), empty, api.ErrArg},
		{5, good, make([]api.Edit, 21), api.ErrLarge},
		{5, good, far, api.ErrArg},
		{5, good, large, api.ErrLarge},
		{5, good, empty, api.ErrEmpty},
		{5, good, over, api.ErrOver},
		{180, nil, full, api.ErrFull},
		// Those of a come first.
		{5, make([]api.Edit, 21), far, api.ErrLarge},
		{5, far, make([]api.Edit, 21), api.ErrArg},
		{5, empty, large, api.ErrEmpty},
		{5, large, empty, api.ErrLarge},
		{5, over, far, api.ErrOver},
		{180, full, far, api.ErrFull},
		{180, full, over, api.ErrFull},
		{180, over, full, api.ErrOver},
		// Those of b come before a conflict, even with the edit that is right.
		{5, []api.Edit{{Ins: "y"}}, []api.Edit{{Ins: "x"}, {}}, api.ErrEmpty},
		{180, []api.Edit{{Del: 40}}, full, api.ErrFull},
	}
	for _, c := range tests {
		expectWrong(t, c.n, c.a, c.b, c.want)
	}
	// A conflict comes before the errors of the result, and too many edits come
	// before too many bytes.
	many := insertions(1, 20, 1)
	expectApart(t, 180, slices.Concat([]api.Edit{{Ins: "y"}}, many[:10]), slices.Concat(good, many[10:]), api.ErrClash)
	expectApart(t, 160, []api.Edit{{Ins: "y"}, {At: 2, Ins: ink(20)}}, []api.Edit{{Ins: "x"}, {At: 4, Ins: ink(21)}}, api.ErrClash)
	expectApart(t, 180, many, good, api.ErrLarge)
	expectApart(t, 179, many, good, api.ErrLarge)
	expectApart(t, 180, many[:19], []api.Edit{{Ins: "xy"}}, api.ErrFull)
}

func TestFull(t *testing.T) { // P2, P63, P64
	for k := range api.MaxInk + 1 {
		for m := range api.MaxInk + 1 {
			n := api.MaxText - max(k, m) - min(k, m)/2
			compare(t, n, insertions(0, min(k, 1), k), insertions(n, min(m, 1), m))
		}
	}
	a, b := []api.Edit{{Ins: ink(25)}}, []api.Edit{{At: 3, Ins: ink(25)}}
	expectMerged(t, 150, a, b, slices.Concat(a, b))
	expectApart(t, 151, a, b, api.ErrFull)
	// What both insert is there once.
	expectMerged(t, 175, a, a, a)
	// Each script has to fit alone, whatever the other one deletes.
	b = []api.Edit{{At: 3, Del: 50}}
	expectMerged(t, 175, a, b, slices.Concat(a, b))
	expectWrong(t, 176, a, b, api.ErrFull)
	expectWrong(t, 176, b, a, api.ErrFull)
	b = []api.Edit{{At: 3, Del: 1, Ins: "xy"}}
	expectMerged(t, 174, a, b, slices.Concat(a, b))
	expectApart(t, 175, a, b, api.ErrFull)
}

func TestNumberOfEdits(t *testing.T) { // P2, P62 to P64
	const n = 100
	for i := range api.MaxEdits + 3 {
		for j := range api.MaxEdits + 3 {
			a, b := insertions(0, i, 1), insertions(1, j, 2)
			e := compare(t, n, a, b)
			if want := i+j > api.MaxEdits; (e == api.ErrLarge) != want {
				t.Errorf("%d and %d edits are merged with the error %v", i, j, e)
			}
			// Those that both do count once.
			compare(t, n, a, slices.Concat(a, insertions(60, j, 1)))
			compare(t, n, insertions(0, j, 1), a)
		}
	}
	l := insertions(0, 20, 1)
	expectMerged(t, n, l, l, l)
	expectMerged(t, n, l[:10], l[10:], l)
	expectMerged(t, n, l[5:], l[:15], l)
	expectApart(t, n, l, insertions(1, 1, 1), api.ErrLarge)
	for _, k := range []int{21, 22, 256, 65536} {
		many := insertions(0, k, 1)
		expectWrong(t, n, many, many, api.ErrLarge)
		expectWrong(t, n, nil, many, api.ErrLarge)
		expectWrong(t, n, many, nil, api.ErrLarge)
	}
}

func TestNumberOfBytes(t *testing.T) { // P1, P62 to P64
	for _, n := range []int{-1, -2, api.MaxText + 1, api.MaxText + 2, 256, 65536, math.MinInt, math.MaxInt, 1 << 32, -1 << 32} {
		for _, l := range [][]api.Edit{nil, {{Ins: "x"}}, {{Del: 1}}, {{}}, {{Del: math.MaxInt}}} {
			expectWrong(t, n, l, l, api.ErrArg)
			expectWrong(t, n, nil, l, api.ErrArg)
			expectWrong(t, n, l, nil, api.ErrArg)
		}
	}
	for n := range api.MaxText + 1 {
		compare(t, n, nil, nil)
		compare(t, n, []api.Edit{{Del: n / 2, Ins: "x"}}, []api.Edit{{At: n, Ins: "y"}})
		compare(t, n, []api.Edit{{At: n, Ins: "y"}}, []api.Edit{{Del: n, Ins: "x"}})
		compare(t, n, []api.Edit{{Ins: "y"}}, []api.Edit{{At: n, Del: 1}})
		compare(t, n, []api.Edit{{At: n + 1, Ins: "y"}}, []api.Edit{{Ins: "x"}})
	}
}

func TestExtremeEdits(t *testing.T) { // P1, P62 to P64
	numbers := []int{
		math.MinInt, math.MinInt + 1, -1 << 32, math.MinInt32, -201, -5, -1, 0, 1, 5, 6, 200, 201,
		math.MaxInt32, 1 << 32, math.MaxInt - 5, math.MaxInt - 1, math.MaxInt,
	}
	for _, at := range numbers {
		for _, del := range numbers {
			for _, text := range []string{"", "x", ink(41)} {
				for _, n := range []int{0, 5, 200} {
					l := []api.Edit{{At: at, Del: del, Ins: text}}
					compare(t, n, l, l)
					compare(t, n, l, []api.Edit{{Ins: "y"}, {At: 3, Del: 2}})
					compare(t, n, []api.Edit{{Ins: "y"}, {At: 3, Del: 2}}, l)
				}
			}
		}
	}
}

func TestAllShortScripts(t *testing.T) { // P1, P62 to P64
	for _, c := range []struct {
		n    int
		inks []string
	}{{0, []string{"x", "y", "xyz"}}, {1, []string{"", "x", "y", "xyz"}}, {2, []string{"", "x", "xyz"}}, {4, []string{"", "xy"}}} {
		scripts := sample.Scripts(0, c.n, c.inks)
		seen := map[api.Errno]int{}
		for _, a := range scripts {
			for _, b := range scripts {
				seen[compare(t, c.n, a, b)]++
			}
		}
		if seen[api.OK] < 4 || seen[api.OK]+seen[api.ErrClash] != len(scripts)*len(scripts) {
			t.Errorf("the pairs of scripts for %v bytes are not of both kinds: %v", c.n, seen)
		}
	}
}

func TestLongScripts(t *testing.T) { // P1, P62 to P64
	seen := map[api.Errno]int{}
	for seed := range 1500 {
		far, bytes := 2+seed%10, 1+seed%7
		l := sample.ScatteredScript(seed, 90, far, bytes)
		l = append(l, moved(sample.ScatteredScript(seed+1, 90, far, bytes), 92)...)
		a, b := shared(seed, l)
		n := 182 + seed%19
		seen[compare(t, n, a, b)]++
		// Now one edit is another one, which may touch those of a.
		if len(b) > 0 {
			x := &b[seed%len(b)]
			*x = api.Edit{At: x.At + seed%3 - 1, Del: x.Del + seed%5/4, Ins: x.Ins}
			seen[compare(t, n, a, b)]++
		}
	}
	for _, e := range []api.Errno{api.OK, api.ErrClash, api.ErrLarge, api.ErrFull} {
		if seen[e] < 50 {
			t.Errorf("too few scripts have the error %v: %v", e, seen)
		}
	}
}

func TestEveryByte(t *testing.T) { // P62 to P64
	for b := range 256 {
		one := []api.Edit{{At: 1, Ins: sample.Ramp(b, 1, 1)}}
		expectMerged(t, 3, one, one, one)
		// Bytes that differ in one bit only are not the same.
		for bit := range 8 {
			expectApart(t, 3, one, []api.Edit{{At: 1, Ins: sample.Ramp(b^1<<bit, 1, 1)}}, api.ErrClash)
		}
	}
}

func TestArgumentsAreLeft(t *testing.T) { // P2
	// The spare capacity behind a and b is the caller's, too.
	a := []api.Edit{{At: 2, Ins: "x"}, {At: 6, Del: 1}, {At: 7}, {At: 8}}
	b := []api.Edit{{Ins: "y"}, {At: 4, Del: 1, Ins: "z"}, {At: 6, Del: 1}, {At: 7}}
	beforeA, beforeB := slices.Clone(a), slices.Clone(b)
	for i := range 3 {
		for j := range 4 {
			compare(t, 9, a[:i], b[:j])
			compare(t, 9, b[:j], a[:i])
		}
	}
	compare(t, 9, a, b)
	if !slices.Equal(a, beforeA) || !slices.Equal(b, beforeB) {
		t.Errorf("the scripts became %#v and %#v", a, b)
	}
}

func TestResultsAreNewMemory(t *testing.T) { // P2
	a := []api.Edit{{At: 2, Ins: "x"}, {At: 6, Del: 1}}
	b := []api.Edit{{Ins: "y"}, {At: 4, Del: 1, Ins: "z"}, {At: 6, Del: 1}}
	lists := [][]api.Edit{a, b}
	for range 2 {
		for i := range len(a) + 1 {
			for j := range len(b) + 1 {
				both, _ := Both(9, a[:i], b[:j])
				rest, _ := Behind(9, a[:i], b[:j])
				other, _ := Behind(9, b[:j], a[:i])
				lists = append(lists, both, rest, other)
			}
		}
	}
	if !sample.Apart(lists...) {
		t.Error("results share memory")
	}
	for _, l := range lists[2:] {
		clear(l[:cap(l)])
	}
	compare(t, 9, a, b)
	compare(t, 9, b, a)
}

func TestNothingIsKept(t *testing.T) { // P2
	a, b := []api.Edit{{At: 2, Ins: "x"}}, []api.Edit{{Ins: "y"}, {At: 4, Del: 1, Ins: "z"}}
	both, _ := Both(9, a, b)
	rest, _ := Behind(9, a, b)
	clear(a)
	clear(b)
	if want := []api.Edit{{Ins: "y"}, {At: 2, Ins: "x"}, {At: 4, Del: 1, Ins: "z"}}; !slices.Equal(both, want) {
		t.Errorf("the merged script is %#v after a change of the arguments", both)
	}
	if want := []api.Edit{{Ins: "y"}, {At: 5, Del: 1, Ins: "z"}}; !slices.Equal(rest, want) {
		t.Errorf("the remaining script is %#v after a change of the arguments", rest)
	}
}

func TestNoStateBetweenCalls(t *testing.T) { // P2
	scripts := [][]api.Edit{nil, {{Ins: "x"}}, {{At: 2, Del: 1}}, {{Del: 3}}, {{}}, insertions(1, 21, 1), {{Ins: "x"}, {At: 5, Del: 4}}}
	for range 2 {
		for _, a := range scripts {
			for _, b := range scripts {
				compare(t, 9, a, b)
				compare(t, 200, a, b)
			}
		}
	}
}
