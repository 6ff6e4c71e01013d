package shift

import (
	"math"
	"slices"
	"testing"

	"quillward/api"
	"quillward/sample"
)

// The slow functions follow the document's words, so that the fast ones can be
// compared with them. They use nothing of the package.

// slowCheck counts the places where an operation of each kind may be.
func slowCheck(n int, x api.Op) api.Errno {
	places := []int{api.OPut: n + 1, api.OTake: n, api.ONone: 1}
	switch {
	case n < 0 || n > api.MaxText:
		return api.ErrArg
	case x.Kind <= 0 || x.Kind >= len(places):
		return api.ErrForm
	case x.At < 0 || x.At >= places[x.Kind]:
		return api.ErrArg
	case x.Kind == api.OPut && n == api.MaxText:
		return api.ErrFull
	case x.Kind != api.OPut && x.B != 0:
		return api.ErrForm
	}
	return api.OK
}

// slowDo goes through the string byte by byte.
func slowDo(s string, x api.Op) (string, api.Errno) {
	if e := slowCheck(len(s), x); e != api.OK {
		return "", e
	}
	var text []byte
	for at := range len(s) + 1 {
		if x.Kind == api.OPut && x.At == at {
			text = append(text, x.B)
		}
		if at < len(s) && !(x.Kind == api.OTake && x.At == at) {
			text = append(text, s[at])
		}
	}
	return string(text), api.OK
}

func slowPast(n int, x, y api.Op, first bool) (api.Op, api.Errno) {
	for _, z := range []api.Op{x, y} {
		if e := slowCheck(n, z); e != api.OK {
			return api.Op{}, e
		}
	}
	return slowForm(x, y, first), api.OK
}

// slowForm lays the gaps and the bytes of the string in one row, in which the gap
// at 3 is just before the byte at 3, and counts the bytes before x that are
// there after y.
func slowForm(x, y api.Op, first bool) api.Op {
	if x.Kind == api.ONone || y.Kind == api.ONone {
		return x
	}
	if x == y && x.Kind == api.OTake {
		return api.Op{Kind: api.ONone}
	}
	at := 0
	for i := range x.At {
		if y.Kind == api.OPut || y.At != i {
			at++
		}
	}
	if y.Kind == api.OPut && (slot(y) < slot(x) || slot(y) == slot(x) && !first) {
		at++
	}
	return api.Op{Kind: x.Kind, At: at, B: x.B}
}

// slot returns the place in the row that an operation is about.
func slot(x api.Op) int {
	if x.Kind == api.OTake {
		return 2*x.At + 1
	}
	return 2 * x.At
}

// slowAll makes all forms of each operation: the one of a[i] after the first j
// operations of b, and the one of b[j] after the first i of a.
func slowAll(n int, a, b []api.Op) ([]api.Op, []api.Op, api.Errno) {
	if e := slowCheckAll(n, a, b); e != api.OK {
		return nil, nil, e
	}
	formsA, formsB := [][]api.Op{nil}, [][]api.Op{b}
	for i, x := range a {
		formsA[i] = []api.Op{x}
		formsA, formsB = append(formsA, nil), append(formsB, nil)
		for j := range b {
			x, y := formsA[i][j], formsB[i][j]
			formsA[i] = append(formsA[i], slowForm(x, y, true))
			formsB[i+1] = append(formsB[i+1], slowForm(y, x, false))
		}
	}
	var after []api.Op
	for i := range a {
		after = append(after, formsA[i][len(b)])
	}
	return after, formsB[len(a)], api.OK
}

func slowCheckAll(n int, a, b []api.Op) api.Errno {
	if max(len(a), len(b)) > api.MaxSteps {
		return api.ErrLarge
	}
	for _, l := range [][]api.Op{a, b} {
		long := n
		for _, x := range l {
			if e := slowCheck(long, x); e != api.OK {
				return e
			}
			long = length(long, []api.Op{x})
		}
		// This is the same with numbers of any size.
		if float64(long)+float64(len(a)+len(b)) > api.MaxText {
			return api.ErrFull
		}
	}
	return api.OK
}

func wantCheck(t *testing.T, n int, x api.Op, want api.Errno) {
	t.Helper()
	if e := Check(n, x); e != want {
		t.Errorf("Check(%v, %v) = %v; want %v", n, x, e, want)
	}
}

func wantDo(t *testing.T, s string, x api.Op, want string, wantError api.Errno) {
	t.Helper()
	if text, e := Do(s, x); e != wantError || text != want {
		t.Errorf("Do(%q, %v) = %q, %v; want %q, %v", s, x, text, e, want, wantError)
	}
}

func wantPast(t *testing.T, n int, x, y api.Op, first bool, want api.Op, wantError api.Errno) {
	t.Helper()
	if z, e := Past(n, x, y, first); e != wantError || z != want {
		t.Errorf("Past(%v, %v, %v, %v) = %v, %v; want %v, %v", n, x, y, first, z, e, want, wantError)
	}
}

func wantAll(t *testing.T, n int, a, b, wantA, wantB []api.Op, wantError api.Errno) {
	t.Helper()
	afterA, afterB, e := All(n, a, b)
	if e != wantError || !slices.Equal(afterA, wantA) || !slices.Equal(afterB, wantB) {
		t.Errorf("All(%v, %v, %v) = %v, %v, %v; want %v, %v, %v", n, a, b, afterA, afterB, e, wantA, wantB, wantError)
	}
}

// expectWrong is for an operation that is wrong for n bytes, whatever the
// other one is.
func expectWrong(t *testing.T, n int, x api.Op, want api.Errno) {
	t.Helper()
	wantCheck(t, n, x, want)
	if n >= 0 && n < 1<<20 {
		wantDo(t, text(n), x, "", want)
	}
	for _, first := range []bool{false, true} {
		wantPast(t, n, x, x, first, api.Op{}, want)
		wantPast(t, n, x, api.Op{}, first, api.Op{}, want)
		if Check(n, none) == api.OK {
			wantPast(t, n, none, x, first, api.Op{}, want)
		}
	}
	wantAll(t, n, []api.Op{x}, nil, nil, nil, want)
}

// expectError is for sequences that are wrong.
func expectError(t *testing.T, n int, a, b []api.Op, want api.Errno) {
	t.Helper()
	wantAll(t, n, a, b, nil, nil, want)
}

// compareOne checks Check and Do for x, which may be wrong.
func compareOne(t *testing.T, n int, x api.Op) {
	t.Helper()
	wantCheck(t, n, x, slowCheck(n, x))
	if n >= 0 && n < 1<<20 {
		s := text(n)
		want, e := slowDo(s, x)
		wantDo(t, s, x, want, e)
	}
}

// comparePast checks Past for x and y, which may be wrong.
func comparePast(t *testing.T, n int, x, y api.Op) {
	t.Helper()
	for _, first := range []bool{false, true} {
		want, e := slowPast(n, x, y, first)
		wantPast(t, n, x, y, first, want, e)
	}
}

// compareAll checks All for a and b, which may be wrong, and returns the error
// that they have.
func compareAll(t *testing.T, n int, a, b []api.Op) api.Errno {
	t.Helper()
	wantA, wantB, e := slowAll(n, a, b)
	wantAll(t, n, a, b, wantA, wantB, e)
	if e == api.OK && n >= 0 {
		expectSameText(t, n, a, b)
	}
	return e
}

// expectSameText checks that both orders of a and b lead to the same text.
func expectSameText(t *testing.T, n int, a, b []api.Op) {
	t.Helper()
	afterA, afterB, _ := All(n, a, b)
	one, e := doAll(text(n), slices.Concat(a, afterB))
	if e != api.OK {
		t.Errorf("%v cannot be done after %v with %d bytes: %v", afterB, a, n, e)
	}
	other, e := doAll(text(n), slices.Concat(b, afterA))
	if e != api.OK {
		t.Errorf("%v cannot be done after %v with %d bytes: %v", afterA, b, n, e)
	}
	if one != other {
		t.Errorf("%v and %v lead from %d bytes to %q and to %q", a, b, n, one, other)
	}
}

func doAll(s string, l []api.Op) (string, api.Errno) {
	for _, x := range l {
		after, e := Do(s, x)
		if e != api.OK {
			return "", e
		}
		s = after
	}
	return s, api.OK
}

var none = api.Op{Kind: api.ONone}

func put(at int, b byte) api.Op {
	return api.Op{Kind: api.OPut, At: at, B: b}
}

func take(at int) api.Op {
	return api.Op{Kind: api.OTake, At: at}
}

// text returns n bytes of which few are equal.
func text(n int) string {
	return sample.Ramp(0, 1, n)
}

// ops returns every operation for n bytes that inserts nothing but b.
func ops(n int, b byte) []api.Op {
	l := []api.Op{none}
	for at := range n + 1 {
		l = append(l, put(at, b))
	}
	for at := range n {
		l = append(l, take(at))
	}
	return l
}

// sequences returns every sequence of at most k operations for n bytes. They
// insert b, the byte after it and so on.
func sequences(n, k int, b byte) [][]api.Op {
	found := [][]api.Op{nil}
	if k == 0 {
		return found
	}
	for _, x := range ops(n, b) {
		for _, l := range sequences(length(n, []api.Op{x}), k-1, b+1) {
			found = append(found, append([]api.Op{x}, l...))
		}
	}
	return found
}

// length returns how many bytes there are after l.
func length(n int, l []api.Op) int {
	for _, x := range l {
		switch x.Kind {
		case api.OPut:
			n++
		case api.OTake:
			n--
		}
	}
	return n
}

// scattered returns k operations for n bytes, other ones for each seed, which
// insert b, the byte after it and so on. If far is small, they are near to each
// other.
func scattered(seed, n, k, far int, b byte) []api.Op {
	var l []api.Op
	kinds := sample.Scattered(seed, k, 0, 8)
	for i, at := range sample.Scattered(seed+1000, k, 0, far) {
		switch {
		case kinds[i] < 4:
			l = append(l, put(min(at, n), b+byte(i)))
			n++
		case kinds[i] < 8 && n > 0:
			l = append(l, take(min(at, n-1)))
			n--
		default:
			l = append(l, none)
		}
	}
	return l
}

func TestCheck(t *testing.T) { // P65
	tests := []struct {
		n    int
		x    api.Op
		want api.Errno
	}{
		{0, put(0, 'x'), api.OK},
		{5, put(0, 'x'), api.OK},
		{5, put(5, 'x'), api.OK},
		{5, put(3, 0), api.OK},
		{199, put(199, 'x'), api.OK},
		{1, take(0), api.OK},
		{5, take(0), api.OK},
		{5, take(4), api.OK},
		{200, take(199), api.OK},
		{0, none, api.OK},
		{5, none, api.OK},
		{200, none, api.OK},
		{-1, put(0, 'x'), api.ErrArg},
		{201, put(0, 'x'), api.ErrArg},
		{201, take(0), api.ErrArg},
		{-1, none, api.ErrArg},
		{201, none, api.ErrArg},
		{5, put(-1, 'x'), api.ErrArg},
		{5, put(6, 'x'), api.ErrArg},
		{200, put(0, 'x'), api.ErrFull},
		{200, put(200, 'x'), api.ErrFull},
		{5, take(-1), api.ErrArg},
		{5, take(5), api.ErrArg},
		{0, take(0), api.ErrArg},
		{200, take(200), api.ErrArg},
		{5, api.Op{Kind: api.ONone, At: 1}, api.ErrArg},
		{5, api.Op{Kind: api.ONone, At: -1}, api.ErrArg},
		{5, api.Op{}, api.ErrForm},
		{5, api.Op{Kind: 4}, api.ErrForm},
		{5, api.Op{Kind: -1}, api.ErrForm},
		{5, api.Op{Kind: api.OTake, B: 'x'}, api.ErrForm},
		{5, api.Op{Kind: api.ONone, B: 'x'}, api.ErrForm},
	}
	for _, c := range tests {
		wantCheck(t, c.n, c.x, c.want)
	}
}

func TestOrderOfErrors(t *testing.T) { // P1, P2, P65 to P67
	tests := []struct {
		n    int
		x    api.Op
		want api.Errno
	}{
		// The number of bytes comes before all.
		{201, put(0, 'x'), api.ErrArg},
		{201, api.Op{}, api.ErrArg},
		{-1, api.Op{Kind: 4, B: 'x'}, api.ErrArg},
		{201, api.Op{Kind: api.ONone, B: 'x'}, api.ErrArg},
		// The position comes before the room.
		{200, put(201, 'x'), api.ErrArg},
		{200, put(-1, 'x'), api.ErrArg},
		// The position comes before the byte.
		{5, api.Op{Kind: api.OTake, At: 5, B: 'x'}, api.ErrArg},
		{5, api.Op{Kind: api.OTake, At: -1, B: 'x'}, api.ErrArg},
		{0, api.Op{Kind: api.OTake, B: 'x'}, api.ErrArg},
		{5, api.Op{Kind: api.ONone, At: 1, B: 'x'}, api.ErrArg},
		// No position is wrong for another kind.
		{5, api.Op{Kind: 4, At: -1}, api.ErrForm},
		{5, api.Op{At: 201, B: 'x'}, api.ErrForm},
		{200, api.Op{At: 201, B: 'x'}, api.ErrForm},
	}
	for _, c := range tests {
		expectWrong(t, c.n, c.x, c.want)
	}
	// Those of x come before those of y.
	form, arg, full := api.Op{Kind: 4}, take(200), put(0, 'x')
	for _, first := range []bool{false, true} {
		wantPast(t, 200, form, arg, first, api.Op{}, api.ErrForm)
		wantPast(t, 200, arg, form, first, api.Op{}, api.ErrArg)
		wantPast(t, 200, full, form, first, api.Op{}, api.ErrFull)
		wantPast(t, 200, form, full, first, api.Op{}, api.ErrForm)
		wantPast(t, 200, take(0), full, first, api.Op{}, api.ErrFull)
		wantPast(t, 200, none, form, first, api.Op{}, api.ErrForm)
		wantPast(t, 200, none, arg, first, api.Op{}, api.ErrArg)
	}
}

func TestDo(t *testing.T) { // P66
	tests := []struct {
		s    string
		x    api.Op
		want string
	}{
		{"", put(0, 'x'), "x"},
		{"abc", put(0, 'x'), "xabc"},
		{"abc", put(1, 'x'), "axbc"},
		{"abc", put(3, 'x'), "abcx"},
		{"abc", put(1, 0), "a\x00bc"},
		{"abc", take(0), "bc"},
		{"abc", take(1), "ac"},
		{"abc", take(2), "ab"},
		{"a", take(0), ""},
		{"", none, ""},
		{"abc", none, "abc"},
		// Bytes count, not characters.
		{"", put(0, 0xe9), "\xe9"},
		{"é", put(1, 'x'), "\xc3x\xa9"},
		{"é", take(0), "\xa9"},
	}
	for _, c := range tests {
		wantDo(t, c.s, c.x, c.want, api.OK)
	}
}

func TestDoTooLarge(t *testing.T) { // P1, P66
	for _, n := range []int{201, 202, 256, 65536} {
		for _, x := range []api.Op{none, put(0, 'x'), take(0), take(200), {}} {
			wantDo(t, text(n), x, "", api.ErrArg)
		}
	}
	s := text(199)
	wantDo(t, s, put(199, 'x'), s+"x", api.OK)
	s = text(200)
	wantDo(t, s, put(200, 'x'), "", api.ErrFull)
	wantDo(t, s, take(199), s[:199], api.OK)
	wantDo(t, s, none, s, api.OK)
}

func TestPast(t *testing.T) { // P67
	either := []bool{false, true}
	tests := []struct {
		x, y  api.Op
		first []bool
		want  api.Op
	}{
		{put(3, 'x'), take(1), either, put(2, 'x')},
		// After one that does nothing, all is as it was.
		{put(3, 'x'), none, either, put(3, 'x')},
		{take(3), none, either, take(3)},
		{none, none, either, none},
		{none, put(0, 'y'), either, none},
		{none, take(0), either, none},
		// Both insert.
		{put(3, 'x'), put(2, 'y'), either, put(4, 'x')},
		{put(3, 'x'), put(0, 'x'), either, put(4, 'x')},
		{put(3, 'x'), put(4, 'y'), either, put(3, 'x')},
		{put(3, 'x'), put(3, 'y'), either[:1], put(4, 'x')},
		{put(3, 'x'), put(3, 'y'), either[1:], put(3, 'x')},
		{put(3, 'x'), put(3, 'x'), either[:1], put(4, 'x')},
		{put(3, 'x'), put(3, 'x'), either[1:], put(3, 'x')},
		{put(5, 'x'), put(5, 'y'), either[:1], put(6, 'x')},
		// One inserts and the other one deletes.
		{put(3, 'x'), take(2), either, put(2, 'x')},
		{put(3, 'x'), take(3), either, put(3, 'x')},
		{put(3, 'x'), take(4), either, put(3, 'x')},
		{take(3), put(2, 'y'), either, take(4)},
		{take(3), put(3, 'y'), either, take(4)},
		{take(3), put(4, 'y'), either, take(3)},
		// Both delete.
		{take(3), take(2), either, take(2)},
		{take(3), take(3), either, none},
		{take(3), take(4), either, take(3)},
		{take(0), take(0), either, none},
	}
	for _, c := range tests {
		for _, first := range c.first {
			wantPast(t, 5, c.x, c.y, first, c.want, api.OK)
		}
	}
}

func TestAll(t *testing.T) { // P68
	tests := []struct {
		n                    int
		a, b, afterA, afterB []api.Op
	}{
		{0, nil, nil, nil, nil},
		{5, nil, []api.Op{}, nil, nil},
		{5, []api.Op{take(4), none}, nil, []api.Op{take(4), none}, nil},
		{5, nil, []api.Op{put(5, 'x'), take(0)}, nil, []api.Op{put(5, 'x'), take(0)}},
		{5, []api.Op{put(3, 'x')}, []api.Op{take(1)}, []api.Op{put(2, 'x')}, []api.Op{take(1)}},
		{3, []api.Op{take(0), take(0)}, []api.Op{put(1, 'x')}, []api.Op{take(0), take(1)}, []api.Op{put(0, 'x')}},
		// The bytes of a come before those of b.
		{0, []api.Op{put(0, 'x')}, []api.Op{put(0, 'y')}, []api.Op{put(0, 'x')}, []api.Op{put(1, 'y')}},
		{
			0,
			[]api.Op{put(0, 'u'), put(1, 'v')}, []api.Op{put(0, 'x'), put(1, 'y')},
			[]api.Op{put(0, 'u'), put(1, 'v')}, []api.Op{put(2, 'x'), put(3, 'y')},
		},
		{
			0,
			[]api.Op{put(0, 'v'), put(0, 'u')}, []api.Op{put(0, 'y'), put(0, 'x')},
			[]api.Op{put(0, 'v'), put(0, 'u')}, []api.Op{put(2, 'y'), put(2, 'x')},
		},
		// What one has deleted is deleted by the other one, too.
		{5, []api.Op{take(2)}, []api.Op{take(2)}, []api.Op{none}, []api.Op{none}},
		{
			5,
			[]api.Op{take(0), take(0), take(0)}, []api.Op{take(2), take(1), take(1)},
			[]api.Op{take(0), none, none}, []api.Op{none, none, take(0)},
		},
		// Each operation is about the string after those before it.
		{
			3,
			[]api.Op{put(0, 'x'), take(0), put(3, 'y')}, []api.Op{take(2), put(2, 'z')},
			[]api.Op{put(0, 'x'), take(0), put(2, 'y')}, []api.Op{take(2), put(3, 'z')},
		},
		{
			2,
			[]api.Op{take(1), put(1, 'x')}, []api.Op{put(1, 'y'), put(1, 'z')},
			[]api.Op{take(3), put(1, 'x')}, []api.Op{put(2, 'y'), put(2, 'z')},
		},
		// What is past one operation of b is about the same string as the next.
		{
			3,
			[]api.Op{take(2)}, []api.Op{put(0, 'y'), take(3)},
			[]api.Op{none}, []api.Op{put(0, 'y'), none},
		},
		{
			3,
			[]api.Op{put(2, 'x')}, []api.Op{take(0), put(1, 'y')},
			[]api.Op{put(1, 'x')}, []api.Op{take(0), put(2, 'y')},
		},
	}
	for _, c := range tests {
		wantAll(t, c.n, c.a, c.b, c.afterA, c.afterB, api.OK)
		compareAll(t, c.n, c.a, c.b)
		compareAll(t, c.n, c.b, c.a)
	}
}

func TestBothOrders(t *testing.T) { // P66, P67
	for n := range 6 {
		s := text(n)
		for _, x := range ops(n, 'x') {
			for _, y := range ops(n, 'y') {
				afterX, _ := Past(n, x, y, true)
				afterY, _ := Past(n, y, x, false)
				one, e := doAll(s, []api.Op{x, afterY})
				other, f := doAll(s, []api.Op{y, afterX})
				if e != api.OK || f != api.OK || one != other {
					t.Errorf("%v and %v lead from %d bytes to %q, %v and to %q, %v", x, y, n, one, e, other, f)
				}
			}
		}
	}
}

func TestAllShortOps(t *testing.T) { // P1, P65 to P67
	for n := range 5 {
		var l []api.Op
		for kind := -1; kind <= 5; kind++ {
			for at := -1; at <= n+2; at++ {
				l = append(l, api.Op{Kind: kind, At: at}, api.Op{Kind: kind, At: at, B: 'x'})
			}
		}
		for _, x := range l {
			compareOne(t, n, x)
			for _, y := range l {
				comparePast(t, n, x, y)
			}
		}
	}
}

func TestLongStrings(t *testing.T) { // P65 to P67
	for _, n := range []int{50, 198, 199, 200} {
		for at := range n + 2 {
			for _, x := range []api.Op{put(at, 'x'), take(at)} {
				compareOne(t, n, x)
				for _, y := range []int{0, at - 1, at, at + 1, n - 1, n} {
					comparePast(t, n, x, put(y, 'y'))
					comparePast(t, n, x, take(y))
				}
				comparePast(t, n, x, none)
				comparePast(t, n, none, x)
			}
		}
	}
}

func TestAllShortSequences(t *testing.T) { // P68
	for _, c := range []struct{ n, k, m int }{{0, 4, 4}, {1, 3, 3}, {2, 3, 3}, {3, 3, 2}, {3, 2, 3}, {5, 2, 2}} {
		all := sequences(c.n, c.m, 'u')
		for _, a := range sequences(c.n, c.k, 'A') {
			for _, b := range all {
				if e := compareAll(t, c.n, a, b); e != api.OK {
					t.Fatalf("All(%v, %v, %v) = %v", c.n, a, b, e)
				}
			}
		}
	}
}

func TestLongSequences(t *testing.T) { // P68
	seen := map[api.Errno]int{}
	for seed := range 1000 {
		n, far := seed%17*10, 1+seed*seed%90
		a := scattered(seed, n, 30-seed%7*seed%3, far, 0)
		b := scattered(seed+5000, n, 30-seed%5, far, 100)
		seen[compareAll(t, n, a, b)]++
	}
	if seen[api.OK] < 500 || seen[api.ErrFull] < 50 {
		t.Errorf("the sequences are not of both kinds: %v", seen)
	}
}

func TestOrderOfSequenceErrors(t *testing.T) { // P1, P2, P68
	many, form, arg := make([]api.Op, 31), []api.Op{{}}, []api.Op{take(200)}
	full, good := []api.Op{put(0, 'x')}, []api.Op{none}
	tests := []struct {
		n    int
		a, b []api.Op
		want api.Errno
	}{
		// Too many operations come first, in any sequence.
		{5, many, nil, api.ErrLarge},
		{5, nil, many, api.ErrLarge},
		{-1, good, many, api.ErrLarge},
		{201, many, arg, api.ErrLarge},
		{5, form, many, api.ErrLarge},
		{5, arg, many, api.ErrLarge},
		{200, full, many, api.ErrLarge},
		// Those of a come before those of b.
		{5, form, arg, api.ErrForm},
		{5, arg, form, api.ErrArg},
		{200, full, form, api.ErrFull},
		{200, form, full, api.ErrForm},
		{200, good, form, api.ErrFull},
		{199, nil, form, api.ErrForm},
		{200, nil, form, api.ErrFull},
		{201, nil, form, api.ErrFull},
		{201, form, nil, api.ErrArg},
		{201, nil, good, api.ErrFull},
		{-1, nil, good, api.ErrArg},
		{5, good, form, api.ErrForm},
		{5, good, arg, api.ErrArg},
		// The first operation with an error counts.
		{5, []api.Op{{}, take(9)}, good, api.ErrForm},
		{5, []api.Op{take(9), {}}, good, api.ErrArg},
		{5, good, []api.Op{none, {}, take(9)}, api.ErrForm},
		{5, good, []api.Op{none, take(9), {}}, api.ErrArg},
		// So does the length at that point.
		{1, []api.Op{take(0), take(0)}, nil, api.ErrArg},
		{1, nil, []api.Op{take(0), take(0)}, api.ErrArg},
		{1, []api.Op{take(0), put(1, 'x')}, nil, api.ErrArg},
		{1, []api.Op{put(0, 'x'), take(2)}, nil, api.ErrArg},
		{1, []api.Op{none, take(1)}, nil, api.ErrArg},
		{199, []api.Op{put(0, 'x'), put(0, 'x'), {}}, nil, api.ErrFull},
		{199, []api.Op{put(0, 'x'), take(200), put(0, 'x')}, nil, api.ErrArg},
		// What is left in the end counts after all else.
		{200, []api.Op{none, {}}, nil, api.ErrForm},
		{200, []api.Op{none, take(200)}, nil, api.ErrArg},
		{199, []api.Op{take(0), put(0, 'x')}, form, api.ErrFull},
	}
	for _, c := range tests {
		expectError(t, c.n, c.a, c.b, c.want)
		compareAll(t, c.n, c.a, c.b)
	}
}

func TestNumberOfSteps(t *testing.T) { // P1, P68
	const n = 100
	for i := range api.MaxSteps + 3 {
		for j := range api.MaxSteps + 3 {
			e := compareAll(t, n, scattered(i, n, i, 10, 0), scattered(j+40, n, j, 10, 100))
			if want := i > api.MaxSteps || j > api.MaxSteps; (e == api.ErrLarge) != want {
				t.Errorf("sequences of %d and %d operations have the error %v", i, j, e)
			}
		}
	}
	for _, k := range []int{31, 32, 256, 65536} {
		l := slices.Repeat([]api.Op{none}, k)
		expectError(t, n, l, l, api.ErrLarge)
		expectError(t, n, l, nil, api.ErrLarge)
		expectError(t, n, nil, l, api.ErrLarge)
	}
}

func TestFull(t *testing.T) { // P65, P68
	puts := slices.Repeat([]api.Op{put(0, 'x')}, api.MaxSteps)
	takes := slices.Repeat([]api.Op{take(0)}, api.MaxSteps)
	nones := slices.Repeat([]api.Op{none}, api.MaxSteps)
	lists := [][]api.Op{puts, takes, nones}
	for _, a := range lists {
		for _, b := range lists {
			for i := range api.MaxSteps + 1 {
				expectRoom(t, a[:i], b[:(i*7)%31])
				expectRoom(t, a[:(i*7)%31], b[:i])
			}
		}
	}
	// The text may be longer on the way.
	a := slices.Concat(puts[:10], takes[:12])
	expectRoom(t, a, nil)
	compareAll(t, 180, a, nil)
	compareAll(t, 190, a, nil)
	expectError(t, 191, a, nil, api.ErrFull)
}

// expectRoom checks the greatest number of bytes for which a and b, each of
// one kind of operations, leave enough room.
func expectRoom(t *testing.T, a, b []api.Op) {
	t.Helper()
	long := max(length(0, a), length(0, b))
	n := api.MaxText - len(a) - len(b) - long
	if n > api.MaxText {
		return
	}
	if e := compareAll(t, n, a, b); e != api.OK {
		t.Errorf("All(%v, %v, %v) = %v", n, a, b, e)
	}
	expectError(t, n+1, a, b, slowCheckAll(n+1, a, b))
	if slowCheckAll(n+1, a, b) == api.OK {
		t.Errorf("%v and %v leave room for more than %d bytes", a, b, n)
	}
}

func TestNumberOfBytes(t *testing.T) { // P1, P65 to P68
	for _, n := range []int{-1, -2, 201, 202, 256, 65536, math.MinInt, math.MaxInt, 1 << 32, -1 << 32} {
		for _, x := range []api.Op{none, put(0, 'x'), take(0), {}, take(n), put(n, 'x'), take(n - 1)} {
			expectWrong(t, n, x, api.ErrArg)
			for _, l := range [][]api.Op{nil, {none}, slices.Repeat([]api.Op{none}, 30)} {
				compareAll(t, n, l, []api.Op{x})
				compareAll(t, n, []api.Op{x}, l)
			}
		}
	}
	for n := range api.MaxText + 1 {
		for _, at := range []int{-1, 0, 1, n / 2, n - 1, n, n + 1} {
			for _, x := range []api.Op{put(at, 'x'), take(at), {Kind: api.ONone, At: at}} {
				compareOne(t, n, x)
				comparePast(t, n, x, take(n/2))
				compareAll(t, n, []api.Op{x, put(n/2, 'y')}, []api.Op{take(n / 2)})
				compareAll(t, n, []api.Op{put(n/2, 'y')}, []api.Op{take(n / 2), x})
			}
		}
	}
}

func TestNoOps(t *testing.T) { // P1, P68
	// No operation is there to be checked, but the length is.
	for _, n := range []int{math.MinInt, -1, 0, 1, 199, 200} {
		wantAll(t, n, nil, nil, nil, nil, api.OK)
		wantAll(t, n, []api.Op{}, []api.Op{}, nil, nil, api.OK)
	}
	for _, n := range []int{201, 202, 65536, math.MaxInt - 1, math.MaxInt} {
		expectError(t, n, nil, nil, api.ErrFull)
		expectError(t, n, []api.Op{}, []api.Op{}, api.ErrFull)
	}
}

func TestExtremeOps(t *testing.T) { // P1, P65 to P68
	numbers := []int{
		math.MinInt, math.MinInt + 1, -1 << 32, math.MinInt32, -201, -1, 0, 1, 2, 3, 4, 5, 6, 200, 201,
		math.MaxInt32, 1 << 32, 1<<32 + 1, 1<<32 + 2, 256 + 1, math.MaxInt - 1, math.MaxInt,
	}
	for _, kind := range numbers {
		for _, at := range numbers {
			for _, b := range []byte{0, 1, 0xff} {
				x := api.Op{Kind: kind, At: at, B: b}
				for _, n := range []int{0, 5, 200} {
					compareOne(t, n, x)
					comparePast(t, n, x, x)
					comparePast(t, n, x, none)
					comparePast(t, n, none, x)
					compareAll(t, n, []api.Op{none, x}, []api.Op{take(0)})
					compareAll(t, n, []api.Op{take(0)}, []api.Op{none, x})
				}
			}
		}
	}
}

func TestEveryByte(t *testing.T) { // P65 to P68
	for b := range 256 {
		x := put(1, byte(b))
		wantCheck(t, 3, x, api.OK)
		wantDo(t, "abc", x, "a"+string([]byte{byte(b)})+"bc", api.OK)
		wantPast(t, 3, x, take(0), true, put(0, byte(b)), api.OK)
		wantPast(t, 3, x, x, false, put(2, byte(b)), api.OK)
		compareAll(t, 3, []api.Op{x}, []api.Op{x, take(0)})
		want := api.ErrForm
		if b == 0 {
			want = api.OK
		}
		wantCheck(t, 3, api.Op{Kind: api.OTake, B: byte(b)}, want)
		wantCheck(t, 3, api.Op{Kind: api.ONone, B: byte(b)}, want)
	}
}

func TestArgumentsAreLeft(t *testing.T) { // P2
	// The spare capacity behind a and b is the caller's, too.
	a := []api.Op{put(2, 'x'), take(1), take(4), {}}
	b := []api.Op{put(0, 'y'), take(2), none, put(3, 'z'), {}}
	beforeA, beforeB := slices.Clone(a), slices.Clone(b)
	for i := range a {
		for j := range b {
			compareAll(t, 9, a[:i], b[:j])
			compareAll(t, 9, b[:j], a[:i])
		}
	}
	expectError(t, 9, a, b, api.ErrForm)
	expectError(t, 9, b[:4], a, api.ErrForm)
	if !slices.Equal(a, beforeA) || !slices.Equal(b, beforeB) {
		t.Errorf("the sequences became %v and %v", a, b)
	}
}

func TestResultsAreNewMemory(t *testing.T) { // P2
	a, b := []api.Op{put(2, 'x'), take(1), take(4)}, []api.Op{put(0, 'y'), take(2), none}
	lists := [][]api.Op{a, b}
	for range 2 {
		for i := range len(a) + 1 {
			for j := range len(b) + 1 {
				afterA, afterB, _ := All(9, a[:i], b[:j])
				lists = append(lists, afterA, afterB)
			}
		}
	}
	// Both sequences may even be the same memory.
	one, other, _ := All(9, a, a)
	lists = append(lists, one, other)
	if !sample.Apart(lists...) {
		t.Error("results share memory")
	}
	for _, l := range lists[2:] {
		clear(l[:cap(l)])
	}
	compareAll(t, 9, a, b)
	compareAll(t, 9, b, a)
	compareAll(t, 9, a, a)
}

func TestNothingIsKept(t *testing.T) { // P2
	a, b := []api.Op{put(2, 'x')}, []api.Op{put(0, 'y')}
	afterA, afterB, _ := All(9, a, b)
	clear(a)
	clear(b)
	if !slices.Equal(afterA, []api.Op{put(3, 'x')}) || !slices.Equal(afterB, []api.Op{put(0, 'y')}) {
		t.Errorf("the results are %v and %v after a change of the arguments", afterA, afterB)
	}
}

func TestNoStateBetweenCalls(t *testing.T) { // P2
	lists := [][]api.Op{nil, {none}, {put(1, 'x')}, {take(0)}, {take(2), put(2, 'y')}, {{}}, {take(9)}, make([]api.Op, 31)}
	for range 2 {
		for _, a := range lists {
			for _, b := range lists {
				compareAll(t, 9, a, b)
				compareAll(t, 198, a, b)
				if len(a) > 0 && len(b) > 0 {
					compareOne(t, 9, a[0])
					comparePast(t, 9, a[0], b[0])
				}
			}
		}
	}
}
