package rope

import (
	"math"
	"slices"
	"strings"
	"testing"

	"quillward/api"
	"quillward/sample"
)

// The slow functions follow the document's words, so that the fast ones can be
// compared with them. They use nothing of the package.

func slowCheck(r api.Rope) api.Errno {
	if len(r.Parts) > 60 {
		return api.ErrLarge
	}
	for i, part := range r.Parts {
		if len(part) == 0 {
			return api.ErrEmpty
		}
		if len(strings.Join(r.Parts[:i+1], "")) > 200 {
			return api.ErrLarge
		}
	}
	return api.OK
}

// slowOf puts byte by byte into the parts.
func slowOf(s string, size int) (api.Rope, api.Errno) {
	if len(s) > 200 {
		return api.Rope{}, api.ErrLarge
	}
	if size < 1 {
		return api.Rope{}, api.ErrArg
	}
	var parts []string
	for i := range len(s) {
		if i%size == 0 {
			parts = append(parts, "")
		}
		parts[len(parts)-1] += s[i : i+1]
	}
	if len(parts) > 60 {
		return api.Rope{}, api.ErrArg
	}
	return api.Rope{Parts: parts}, api.OK
}

// seams returns the text of a rope, and the places where one part ends and
// another one begins.
func seams(r api.Rope) (string, map[int]bool) {
	s, places := "", map[int]bool{}
	for _, part := range r.Parts {
		places[len(s)] = true
		s += part
	}
	return s, places
}

// parted returns s in parts that begin at the places.
func parted(s string, places map[int]bool) api.Rope {
	var parts []string
	for i := range len(s) {
		if i == 0 || places[i] {
			parts = append(parts, "")
		}
		parts[len(parts)-1] += s[i : i+1]
	}
	return api.Rope{Parts: parts}
}

// slowCut divides the text, not the parts.
func slowCut(r api.Rope, at int) (api.Rope, api.Rope, api.Errno) {
	if e := slowCheck(r); e != api.OK {
		return api.Rope{}, api.Rope{}, e
	}
	s, places := seams(r)
	if at < 0 || at > len(s) {
		return api.Rope{}, api.Rope{}, api.ErrArg
	}
	after := map[int]bool{}
	for place := range places {
		after[place-at] = true
	}
	return parted(s[:at], places), parted(s[at:], after), api.OK
}

func slowJoin(a, b api.Rope) (api.Rope, api.Errno) {
	for _, r := range []api.Rope{a, b} {
		if e := slowCheck(r); e != api.OK {
			return api.Rope{}, e
		}
	}
	var r api.Rope
	for _, part := range append(slices.Clone(a.Parts), b.Parts...) {
		r.Parts = append(r.Parts, part)
	}
	if s, _ := seams(r); len(r.Parts) > 60 || len(s) > 200 {
		return api.Rope{}, api.ErrFull
	}
	return r, api.OK
}

func slowAt(r api.Rope, i int) (byte, api.Errno) {
	if e := slowCheck(r); e != api.OK {
		return 0, e
	}
	s, _ := seams(r)
	if i < 0 || i >= len(s) {
		return 0, api.ErrArg
	}
	return s[i], api.OK
}

// slowEdit edits the text, and moves the places.
func slowEdit(r api.Rope, x api.Edit) (api.Rope, api.Errno) {
	if e := slowCheck(r); e != api.OK {
		return api.Rope{}, e
	}
	s, places := seams(r)
	if x.At < 0 || x.At > len(s) || x.Del < 0 || x.Del > len(s[x.At:]) {
		return api.Rope{}, api.ErrArg
	}
	if len(x.Ins) > 200 {
		return api.Rope{}, api.ErrLarge
	}
	after := map[int]bool{x.At: true, x.At + len(x.Ins): true}
	for place := range places {
		if place < x.At {
			after[place] = true
		}
		if place > x.At+x.Del {
			after[place-x.Del+len(x.Ins)] = true
		}
	}
	edited := parted(s[:x.At]+x.Ins+s[x.At+x.Del:], after)
	if slowCheck(edited) != api.OK {
		return api.Rope{}, api.ErrFull
	}
	return edited, api.OK
}

func equal(a, b api.Rope) bool {
	return slices.Equal(a.Parts, b.Parts)
}

func wantCheck(t *testing.T, r api.Rope, want api.Errno) {
	t.Helper()
	if e := Check(r); e != want {
		t.Errorf("Check(%q) = %v; want %v", r, e, want)
	}
}

func wantOf(t *testing.T, s string, size int, want api.Rope, wantError api.Errno) {
	t.Helper()
	if r, e := Of(s, size); e != wantError || !equal(r, want) {
		t.Errorf("Of(%q, %v) = %q, %v; want %q, %v", s, size, r, e, want, wantError)
	}
}

func wantText(t *testing.T, r api.Rope, want string, wantError api.Errno) {
	t.Helper()
	if s, e := Text(r); e != wantError || s != want {
		t.Errorf("Text(%q) = %q, %v; want %q, %v", r, s, e, want, wantError)
	}
}

func wantCut(t *testing.T, r api.Rope, at int, wantA, wantB api.Rope, wantError api.Errno) {
	t.Helper()
	if a, b, e := Cut(r, at); e != wantError || !equal(a, wantA) || !equal(b, wantB) {
		t.Errorf("Cut(%q, %v) = %q, %q, %v; want %q, %q, %v", r, at, a, b, e, wantA, wantB, wantError)
	}
}

func wantJoin(t *testing.T, a, b, want api.Rope, wantError api.Errno) {
	t.Helper()
	if r, e := Join(a, b); e != wantError || !equal(r, want) {
		t.Errorf("Join(%q, %q) = %q, %v; want %q, %v", a, b, r, e, want, wantError)
	}
}

func wantAt(t *testing.T, r api.Rope, i int, want byte, wantError api.Errno) {
	t.Helper()
	if b, e := At(r, i); e != wantError || b != want {
		t.Errorf("At(%q, %v) = %q, %v; want %q, %v", r, i, b, e, want, wantError)
	}
}

func wantEdit(t *testing.T, r api.Rope, x api.Edit, want api.Rope, wantError api.Errno) {
	t.Helper()
	if edited, e := Edit(r, x); e != wantError || !equal(edited, want) {
		t.Errorf("Edit(%q, %#v) = %q, %v; want %q, %v", r, x, edited, e, want, wantError)
	}
}

// expectWrong is for what is not a rope, whatever the other arguments are.
func expectWrong(t *testing.T, r api.Rope, want api.Errno) {
	t.Helper()
	wantCheck(t, r, want)
	wantText(t, r, "", want)
	for _, at := range []int{0, 1, -1, 200, 201, math.MinInt, math.MaxInt} {
		wantCut(t, r, at, api.Rope{}, api.Rope{}, want)
		wantAt(t, r, at, 0, want)
		for _, ins := range []string{"", "x", ink(200), ink(201)} {
			wantEdit(t, r, api.Edit{At: at, Del: at, Ins: ins}, api.Rope{}, want)
		}
	}
	wantJoin(t, r, r, api.Rope{}, want)
	for _, other := range []api.Rope{{}, rope("x"), rope(strings.Split(ink(60), "")...), rope(ink(200))} {
		wantJoin(t, r, other, api.Rope{}, want)
		wantJoin(t, other, r, api.Rope{}, want)
	}
}

// compareCut checks Cut and At at every position, and what Cut makes of a rope.
func compareCut(t *testing.T, r api.Rope) {
	t.Helper()
	s, _ := seams(r)
	wantText(t, r, s, api.OK)
	for at := -2; at <= len(s)+2; at++ {
		a, b, e := slowCut(r, at)
		wantCut(t, r, at, a, b, e)
		c, e := slowAt(r, at)
		wantAt(t, r, at, c, e)
		if at >= 0 && at <= len(s) {
			compareJoin(t, a, b)
		}
	}
}

func compareJoin(t *testing.T, a, b api.Rope) {
	t.Helper()
	r, e := slowJoin(a, b)
	wantJoin(t, a, b, r, e)
}

func compareEdit(t *testing.T, r api.Rope, x api.Edit) {
	t.Helper()
	edited, e := slowEdit(r, x)
	wantEdit(t, r, x, edited, e)
	if e == api.OK {
		s, _ := seams(r)
		wantText(t, edited, s[:x.At]+x.Ins+s[x.At+x.Del:], api.OK)
	}
}

// compareEdits checks Edit with each of the inks at every position for every
// number of bytes.
func compareEdits(t *testing.T, r api.Rope, inks ...string) {
	t.Helper()
	s, _ := seams(r)
	for at := -1; at <= len(s)+1; at++ {
		for deleted := -1; deleted <= len(s)-at+1; deleted++ {
			for _, ins := range inks {
				compareEdit(t, r, api.Edit{At: at, Del: deleted, Ins: ins})
			}
		}
	}
}

func rope(parts ...string) api.Rope {
	return api.Rope{Parts: parts}
}

func ink(n int) string {
	return strings.Repeat("i", n)
}

// text returns n bytes of which few are equal.
func text(n int) string {
	return sample.Ramp(0, 1, n)
}

// ropes returns s in parts, in every way.
func ropes(s string) []api.Rope {
	if s == "" {
		return []api.Rope{{}}
	}
	var found []api.Rope
	for end := 1; end <= len(s); end++ {
		for _, r := range ropes(s[end:]) {
			found = append(found, rope(append([]string{s[:end]}, r.Parts...)...))
		}
	}
	return found
}

// scattered returns s in k parts or fewer, other ones for each seed.
func scattered(seed int, s string, k int) api.Rope {
	places := map[int]bool{}
	for _, place := range sample.Scattered(seed, k-1, 0, len(s)) {
		places[place] = true
	}
	return parted(s, places)
}

// longRopes returns ropes that have as many bytes or as many parts as there may
// be, or almost.
func longRopes() []api.Rope {
	var found []api.Rope
	for _, n := range []int{59, 60, 61, 100, 199, 200} {
		for _, size := range []int{1, 2, 3, 4, 7, 50, 199, 200} {
			if r, e := slowOf(text(n), size); e == api.OK {
				found = append(found, r)
			}
		}
		for seed := range 4 {
			found = append(found, scattered(seed, text(n), 60), scattered(seed, text(n), 5))
		}
	}
	return found
}

func TestCheck(t *testing.T) { // P69
	for _, r := range []api.Rope{
		{},
		rope([]string{}...),
		rope("a"),
		rope("abc", "abc", "d"),
		rope("\x00", "\xff"),
		rope(ink(200)),
		rope(ink(100), ink(100)),
		rope(ink(199), "x"),
		rope("x", ink(199)),
		rope(strings.Split(ink(60), "")...),
		rope(slices.Repeat([]string{"abc"}, 60)...),
		rope(append(slices.Repeat([]string{"abc"}, 59), text(23))...),
	} {
		wantCheck(t, r, api.OK)
	}
	tests := []struct {
		r    api.Rope
		want api.Errno
	}{
		{rope(""), api.ErrEmpty},
		{rope("", "a"), api.ErrEmpty},
		{rope("a", "", "b"), api.ErrEmpty},
		{rope("a", "b", ""), api.ErrEmpty},
		{rope(append(strings.Split(ink(59), ""), "")...), api.ErrEmpty},
		{rope(ink(201)), api.ErrLarge},
		{rope(ink(100), ink(101)), api.ErrLarge},
		{rope(ink(200), "x"), api.ErrLarge},
		{rope("x", ink(200)), api.ErrLarge},
		{rope(slices.Repeat([]string{"four"}, 51)...), api.ErrLarge},
		{rope(strings.Split(ink(61), "")...), api.ErrLarge},
		{rope(strings.Split(ink(200), "")...), api.ErrLarge},
		{rope(strings.Split(ink(1000), "")...), api.ErrLarge},
		{rope(strings.Repeat("x", 65536)), api.ErrLarge},
		{rope(slices.Repeat([]string{strings.Repeat("x", 1<<16)}, 60)...), api.ErrLarge},
	}
	for _, c := range tests {
		expectWrong(t, c.r, c.want)
	}
}

func TestOrderOfErrors(t *testing.T) { // P2, P69
	tests := []struct {
		r    api.Rope
		want api.Errno
	}{
		// The number of parts comes before all.
		{rope(make([]string, 61)...), api.ErrLarge},
		{rope(append(strings.Split(ink(60), ""), "")...), api.ErrLarge},
		{rope(append([]string{""}, strings.Split(ink(60), "")...)...), api.ErrLarge},
		// The first part with an error determines the error.
		{rope("", ink(201)), api.ErrEmpty},
		{rope(ink(201), ""), api.ErrLarge},
		{rope(ink(100), "", ink(101)), api.ErrEmpty},
		{rope(ink(100), ink(101), ""), api.ErrLarge},
		{rope(ink(200), "", "x"), api.ErrEmpty},
		{rope(ink(200), "x", ""), api.ErrLarge},
		{rope(make([]string, 60)...), api.ErrEmpty},
	}
	for _, c := range tests {
		expectWrong(t, c.r, c.want)
	}
}

func TestOrderOfJoinErrors(t *testing.T) { // P2, P72
	empty, large := rope("a", ""), rope(ink(201))
	wantJoin(t, empty, large, api.Rope{}, api.ErrEmpty)
	wantJoin(t, large, empty, api.Rope{}, api.ErrLarge)
	// Those of b come before ErrFull.
	for _, a := range []api.Rope{rope(ink(200)), rope(strings.Split(ink(60), "")...)} {
		wantJoin(t, a, empty, api.Rope{}, api.ErrEmpty)
		wantJoin(t, a, large, api.Rope{}, api.ErrLarge)
		wantJoin(t, a, rope(strings.Split(ink(61), "")...), api.Rope{}, api.ErrLarge)
		wantJoin(t, a, a, api.Rope{}, api.ErrFull)
	}
}

func TestOrderOfEditErrors(t *testing.T) { // P2, P74
	r := rope(strings.Split(text(60), "")...)
	tests := []struct {
		x    api.Edit
		want api.Errno
	}{
		// The position and the number of bytes come before what is inserted.
		{api.Edit{At: 61, Ins: ink(201)}, api.ErrArg},
		{api.Edit{At: -1, Ins: ink(201)}, api.ErrArg},
		{api.Edit{At: 60, Del: 1, Ins: ink(201)}, api.ErrArg},
		{api.Edit{At: 3, Del: 58, Ins: ink(201)}, api.ErrArg},
		{api.Edit{At: 3, Del: -1, Ins: ink(201)}, api.ErrArg},
		{api.Edit{At: 60, Del: 1, Ins: "x"}, api.ErrArg},
		{api.Edit{At: -1, Ins: "x"}, api.ErrArg},
		// Its size comes before the room.
		{api.Edit{At: 0, Del: 0, Ins: ink(201)}, api.ErrLarge},
		{api.Edit{At: 60, Del: 0, Ins: ink(201)}, api.ErrLarge},
		{api.Edit{At: 0, Del: 60, Ins: ink(201)}, api.ErrLarge},
		{api.Edit{At: 60, Del: 0, Ins: ink(200)}, api.ErrFull},
		{api.Edit{At: 0, Del: 0, Ins: ink(200)}, api.ErrFull},
	}
	for _, c := range tests {
		wantEdit(t, r, c.x, api.Rope{}, c.want)
	}
}

func TestOf(t *testing.T) { // P70
	tests := []struct {
		s    string
		size int
		want api.Rope
	}{
		{"abcde", 2, rope("ab", "cd", "e")},
		{"abcd", 2, rope("ab", "cd")},
		{"abcde", 1, rope("a", "b", "c", "d", "e")},
		{"abcde", 4, rope("abcd", "e")},
		{"abcde", 5, rope("abcde")},
		{"abcde", 6, rope("abcde")},
		{"abcde", math.MaxInt, rope("abcde")},
		{"", 1, rope()},
		{"", 2, rope()},
		{"", math.MaxInt, rope()},
		// Bytes count, not characters.
		{"é", 1, rope("\xc3", "\xa9")},
	}
	for _, c := range tests {
		wantOf(t, c.s, c.size, c.want, api.OK)
		wantText(t, c.want, c.s, api.OK)
	}
}

func TestEverySize(t *testing.T) { // P1, P2, P70
	for n := range api.MaxText + 3 {
		for size := -1; size <= n+2; size++ {
			want, e := slowOf(text(n), size)
			wantOf(t, text(n), size, want, e)
			if e == api.OK {
				wantCheck(t, want, api.OK)
				wantText(t, want, text(n), api.OK)
			}
		}
		for _, size := range []int{math.MinInt, math.MinInt + 1, -1 << 32, math.MaxInt32, 1 << 32, math.MaxInt - 1, math.MaxInt} {
			want, e := slowOf(text(n), size)
			wantOf(t, text(n), size, want, e)
		}
	}
}

func TestOfLimits(t *testing.T) { // P70
	tests := []struct {
		n, size int
		want    api.Errno
	}{
		{0, 0, api.ErrArg},
		{0, -1, api.ErrArg},
		{5, 0, api.ErrArg},
		{5, math.MinInt, api.ErrArg},
		{60, 1, api.OK},
		{61, 1, api.ErrArg},
		{120, 2, api.OK},
		{121, 2, api.ErrArg},
		{180, 3, api.OK},
		{181, 3, api.ErrArg},
		{200, 3, api.ErrArg},
		{200, 4, api.OK},
		{200, 200, api.OK},
		// The length comes before the size.
		{201, 0, api.ErrLarge},
		{201, 1, api.ErrLarge},
		{201, 201, api.ErrLarge},
		{65536, math.MaxInt, api.ErrLarge},
	}
	for _, c := range tests {
		if _, e := Of(text(c.n), c.size); e != c.want {
			t.Errorf("Of of %d bytes, %d in a part: %v; want %v", c.n, c.size, e, c.want)
		}
	}
}

func TestCut(t *testing.T) { // P71
	r := rope("ab", "cd", "e")
	tests := []struct {
		at   int
		a, b api.Rope
	}{
		{0, rope(), rope("ab", "cd", "e")},
		{1, rope("a"), rope("b", "cd", "e")},
		{2, rope("ab"), rope("cd", "e")},
		{3, rope("ab", "c"), rope("d", "e")},
		{4, rope("ab", "cd"), rope("e")},
		{5, rope("ab", "cd", "e"), rope()},
	}
	for _, c := range tests {
		wantCut(t, r, c.at, c.a, c.b, api.OK)
	}
	for _, at := range []int{-1, 6, 200, 201, math.MinInt, math.MaxInt} {
		wantCut(t, r, at, rope(), rope(), api.ErrArg)
	}
	wantCut(t, rope(), 0, rope(), rope(), api.OK)
	wantCut(t, rope(), 1, rope(), rope(), api.ErrArg)
	wantCut(t, rope(), -1, rope(), rope(), api.ErrArg)
}

func TestJoin(t *testing.T) { // P72
	tests := []struct{ a, b, want api.Rope }{
		{rope(), rope(), rope()},
		{rope("ab"), rope(), rope("ab")},
		{rope(), rope("ab"), rope("ab")},
		{rope("ab", "c"), rope("d", "ef"), rope("ab", "c", "d", "ef")},
		// Equal parts stay apart, and none are put together.
		{rope("a"), rope("a"), rope("a", "a")},
	}
	for _, c := range tests {
		wantJoin(t, c.a, c.b, c.want, api.OK)
	}
}

func TestJoinLimits(t *testing.T) { // P72
	for n := range 62 {
		for _, k := range []int{58 - n, 59 - n, 60 - n, 61 - n, 62 - n, 60} {
			if n <= 60 && k >= 0 && k <= 60 {
				compareJoin(t, rope(strings.Split(text(n), "")...), rope(strings.Split(text(k), "")...))
			}
		}
	}
	for n := 1; n <= 200; n++ {
		for _, k := range []int{199 - n, 200 - n, 201 - n, 202 - n, 200} {
			if k > 0 && k <= 200 {
				compareJoin(t, rope(text(n)), rope(text(k)))
			}
		}
	}
	tests := []struct {
		a, b api.Rope
		want api.Errno
	}{
		{rope(strings.Split(text(60), "")...), rope(), api.OK},
		{rope(strings.Split(text(60), "")...), rope("x"), api.ErrFull},
		{rope("x"), rope(strings.Split(text(60), "")...), api.ErrFull},
		{rope(ink(200)), rope(), api.OK},
		{rope(ink(200)), rope("x"), api.ErrFull},
		{rope("x"), rope(ink(200)), api.ErrFull},
		{rope(ink(100)), rope(ink(100)), api.OK},
		{rope(ink(100)), rope(ink(101)), api.ErrFull},
	}
	for _, c := range tests {
		if r, e := Join(c.a, c.b); e != c.want || e != api.OK && r.Parts != nil {
			t.Errorf("Join(%q, %q) = %q, %v; want %v", c.a, c.b, r, e, c.want)
		}
	}
}

func TestAt(t *testing.T) { // P73
	r := rope("ab", "cd", "e")
	for i, b := range []byte("abcde") {
		wantAt(t, r, i, b, api.OK)
	}
	for _, i := range []int{-1, 5, 6, 200, math.MinInt, math.MaxInt} {
		wantAt(t, r, i, 0, api.ErrArg)
	}
	for _, i := range []int{-1, 0, 1} {
		wantAt(t, rope(), i, 0, api.ErrArg)
	}
}

func TestEdit(t *testing.T) { // P74
	r := rope("ab", "cd", "e")
	tests := []struct {
		x    api.Edit
		want api.Rope
	}{
		{api.Edit{At: 0, Ins: "xy"}, rope("xy", "ab", "cd", "e")},
		{api.Edit{At: 1, Ins: "xy"}, rope("a", "xy", "b", "cd", "e")},
		{api.Edit{At: 2, Ins: "xy"}, rope("ab", "xy", "cd", "e")},
		{api.Edit{At: 5, Ins: "xy"}, rope("ab", "cd", "e", "xy")},
		{api.Edit{At: 0, Del: 1}, rope("b", "cd", "e")},
		{api.Edit{At: 0, Del: 2}, rope("cd", "e")},
		{api.Edit{At: 0, Del: 5}, rope()},
		{api.Edit{At: 0, Del: 5, Ins: "xy"}, rope("xy")},
		{api.Edit{At: 1, Del: 2}, rope("a", "d", "e")},
		{api.Edit{At: 1, Del: 2, Ins: "x"}, rope("a", "x", "d", "e")},
		{api.Edit{At: 1, Del: 3}, rope("a", "e")},
		{api.Edit{At: 4, Del: 1}, rope("ab", "cd")},
		// An edit that does nothing divides a part, too.
		{api.Edit{At: 0}, rope("ab", "cd", "e")},
		{api.Edit{At: 1}, rope("a", "b", "cd", "e")},
		{api.Edit{At: 2}, rope("ab", "cd", "e")},
		{api.Edit{At: 5}, rope("ab", "cd", "e")},
	}
	for _, c := range tests {
		wantEdit(t, r, c.x, c.want, api.OK)
	}
	for _, x := range []api.Edit{
		{At: -1}, {At: 6}, {At: 0, Del: -1}, {At: 0, Del: 6}, {At: 3, Del: 3}, {At: 5, Del: 1, Ins: "x"},
		{At: 5, Del: -1}, {At: 6, Del: -1}, {At: -1, Del: 1},
	} {
		wantEdit(t, r, x, rope(), api.ErrArg)
	}
	wantEdit(t, rope(), api.Edit{}, rope(), api.OK)
	wantEdit(t, rope(), api.Edit{Ins: "x"}, rope("x"), api.OK)
	wantEdit(t, rope(), api.Edit{Ins: ink(200)}, rope(ink(200)), api.OK)
	wantEdit(t, rope(), api.Edit{Ins: ink(201)}, rope(), api.ErrLarge)
}

func TestEditLimits(t *testing.T) { // P74
	parts := rope(strings.Split(text(60), "")...)
	pairs, _ := slowOf(text(120), 2)
	tests := []struct {
		r    api.Rope
		x    api.Edit
		want api.Errno
	}{
		// The parts before and behind, and what is inserted, are too many.
		{parts, api.Edit{At: 60, Ins: "x"}, api.ErrFull},
		{parts, api.Edit{At: 30, Ins: "x"}, api.ErrFull},
		{parts, api.Edit{At: 0, Ins: "x"}, api.ErrFull},
		{parts, api.Edit{At: 30, Del: 1, Ins: "x"}, api.OK},
		{parts, api.Edit{At: 59, Del: 1, Ins: ink(141)}, api.OK},
		{parts, api.Edit{At: 59, Del: 1, Ins: ink(142)}, api.ErrFull},
		{parts, api.Edit{At: 30}, api.OK},
		{pairs, api.Edit{At: 30}, api.OK},
		{pairs, api.Edit{At: 31}, api.ErrFull},
		{pairs, api.Edit{At: 31, Del: 1}, api.OK},
		{pairs, api.Edit{At: 31, Del: 1, Ins: "x"}, api.ErrFull},
		{pairs, api.Edit{At: 31, Del: 2}, api.OK},
		{pairs, api.Edit{At: 31, Del: 2, Ins: "x"}, api.ErrFull},
		{pairs, api.Edit{At: 31, Del: 3, Ins: "x"}, api.OK},
		{pairs, api.Edit{At: 31, Del: 4, Ins: "x"}, api.OK},
		// The bytes are too many.
		{rope(text(200)), api.Edit{At: 200, Ins: "x"}, api.ErrFull},
		{rope(text(200)), api.Edit{At: 100, Ins: "x"}, api.ErrFull},
		{rope(text(200)), api.Edit{At: 0, Ins: "x"}, api.ErrFull},
		{rope(text(200)), api.Edit{At: 100, Del: 1, Ins: "x"}, api.OK},
		{rope(text(200)), api.Edit{At: 100, Del: 1, Ins: "xy"}, api.ErrFull},
		{rope(text(200)), api.Edit{At: 0, Del: 200, Ins: ink(200)}, api.OK},
		{rope(text(200)), api.Edit{At: 0, Del: 200, Ins: ink(201)}, api.ErrLarge},
		{rope(text(200)), api.Edit{At: 1, Del: 199, Ins: ink(200)}, api.ErrFull},
		{rope(text(200)), api.Edit{At: 0, Del: 199, Ins: ink(200)}, api.ErrFull},
		{rope(text(199)), api.Edit{At: 199, Ins: "x"}, api.OK},
	}
	for _, c := range tests {
		if _, e := Edit(c.r, c.x); e != c.want {
			t.Errorf("Edit(%q, %#v) has the error %v; want %v", c.r, c.x, e, c.want)
		}
		compareEdit(t, c.r, c.x)
	}
}

func TestAllShortRopes(t *testing.T) { // P69 to P71, P73, P74
	for n := range 8 {
		for _, r := range ropes("abcdefgh"[:n]) {
			wantCheck(t, r, api.OK)
			compareCut(t, r)
			compareEdits(t, r, "", "x", "yz")
		}
	}
	// With an empty part somewhere, none of them is a rope.
	for _, r := range ropes("abcd") {
		for i := range len(r.Parts) + 1 {
			expectWrong(t, rope(slices.Insert(slices.Clone(r.Parts), i, "")...), api.ErrEmpty)
		}
	}
}

func TestAllPairs(t *testing.T) { // P72
	var short []api.Rope
	for n := range 6 {
		short = append(short, ropes("aabba"[:n])...)
	}
	for _, a := range short {
		for _, b := range short {
			compareJoin(t, a, b)
		}
	}
}

func TestLongRopes(t *testing.T) { // P69 to P74
	long := longRopes()
	for _, r := range long {
		wantCheck(t, r, api.OK)
		compareCut(t, r)
		s, _ := seams(r)
		for seed := range 10 {
			at := sample.Scattered(seed, 2, 0, len(s))
			for _, deleted := range []int{0, 1, 2, 3, at[1] % (len(s) - at[0] + 1), len(s) - at[0], len(s) - at[0] + 1} {
				for _, n := range []int{0, 1, deleted, deleted + 1, 200 - len(s) + deleted, 201 - len(s) + deleted, 200, 201} {
					compareEdit(t, r, api.Edit{At: at[0], Del: deleted, Ins: ink(n)})
				}
			}
		}
	}
	for _, a := range long {
		for _, b := range long {
			compareJoin(t, a, b)
		}
	}
}

func TestManyEdits(t *testing.T) { // P74
	for seed := range 20 {
		r, s := api.Rope{}, ""
		numbers := sample.Scattered(seed, 3*300, 0, 1<<20)
		for ; len(numbers) > 0; numbers = numbers[3:] {
			at := numbers[0] % (len(s) + 1)
			x := api.Edit{At: at, Del: numbers[1] % 9 % (len(s) - at + 1), Ins: text(numbers[2] % 9)}
			compareEdit(t, r, x)
			edited, e := Edit(r, x)
			if e != api.OK {
				continue
			}
			r, s = edited, s[:at]+x.Ins+s[at+x.Del:]
			wantText(t, r, s, api.OK)
			// A rope of few parts has room for others.
			if len(r.Parts) > 55 {
				r, _ = Of(s, 10)
			}
		}
	}
}

func TestExtremeNumbers(t *testing.T) { // P1, P2, P71, P73, P74
	numbers := []int{
		math.MinInt, math.MinInt + 1, math.MinInt + 5, -1 << 32, math.MinInt32, -200, -5, -1, 0, 1, 2, 4, 5, 6, 199, 200,
		201, math.MaxInt32, 1 << 32, 1<<32 + 1, math.MaxInt - 5, math.MaxInt - 4, math.MaxInt - 1, math.MaxInt,
	}
	for _, r := range []api.Rope{{}, rope("abcde"), rope("ab", "cd", "e"), rope(text(200)), rope(strings.Split(text(60), "")...)} {
		for _, at := range numbers {
			a, b, e := slowCut(r, at)
			wantCut(t, r, at, a, b, e)
			c, e := slowAt(r, at)
			wantAt(t, r, at, c, e)
			for _, deleted := range numbers {
				compareEdit(t, r, api.Edit{At: at, Del: deleted})
				compareEdit(t, r, api.Edit{At: at, Del: deleted, Ins: "x"})
				compareEdit(t, r, api.Edit{At: at, Del: deleted, Ins: ink(201)})
			}
		}
	}
}

func TestEveryByte(t *testing.T) { // P69 to P74
	for i := range 256 {
		b := string([]byte{byte(i)})
		r := rope("a", b+b, b)
		wantCheck(t, r, api.OK)
		wantOf(t, "a"+b+b+b, 2, rope("a"+b, b+b), api.OK)
		wantText(t, r, "a"+b+b+b, api.OK)
		wantCut(t, r, 2, rope("a", b), rope(b, b), api.OK)
		wantJoin(t, r, rope(b), rope("a", b+b, b, b), api.OK)
		wantAt(t, r, 2, byte(i), api.OK)
		wantEdit(t, r, api.Edit{At: 0, Del: 2, Ins: b + b}, rope(b+b, b, b), api.OK)
	}
}

func TestArgumentsAreLeft(t *testing.T) { // P2
	// The spare capacity behind the parts is the caller's, too.
	parts := []string{"ab", "c", "def", "g", "", "h"}
	before := slices.Clone(parts)
	for i := range 5 {
		r := api.Rope{Parts: parts[:i]}
		compareCut(t, r)
		compareEdits(t, r, "", "x", "yz")
		for j := range 5 {
			compareJoin(t, r, api.Rope{Parts: parts[:j]})
		}
	}
	expectWrong(t, api.Rope{Parts: parts}, api.ErrEmpty)
	if !slices.Equal(parts, before) {
		t.Errorf("the parts became %q", parts)
	}
}

func TestResultsAreNewMemory(t *testing.T) { // P2
	r := rope("ab", "c", "def")
	lists := [][]string{r.Parts}
	keep := func(r api.Rope) { lists = append(lists, r.Parts) }
	for range 2 {
		for n := range 7 {
			of, _ := Of("abcdef", n)
			a, b, _ := Cut(r, n)
			keep(of)
			keep(a)
			keep(b)
			for k := range 7 - n {
				replaced, _ := Edit(r, api.Edit{At: n, Del: k, Ins: "x"})
				deleted, _ := Edit(r, api.Edit{At: n, Del: k})
				keep(replaced)
				keep(deleted)
			}
		}
		for _, other := range []api.Rope{{}, rope("x"), r} {
			one, _ := Join(r, other)
			two, _ := Join(other, r)
			keep(one)
			keep(two)
		}
	}
	if !sample.Apart(lists...) {
		t.Error("results share memory")
	}
	for _, l := range lists[1:] {
		clear(l[:cap(l)])
	}
	wantText(t, r, "abcdef", api.OK)
	compareCut(t, r)
	compareEdits(t, r, "", "x")
}

func TestNothingIsKept(t *testing.T) { // P2
	first, second := rope("ab", "c", "def"), rope("g", "h")
	a, b, _ := Cut(first, 3)
	joined, _ := Join(first, second)
	edited, _ := Edit(first, api.Edit{At: 3, Ins: "x"})
	clear(first.Parts)
	clear(second.Parts)
	tests := []struct {
		r    api.Rope
		want string
	}{
		{a, "abc"}, {b, "def"}, {joined, "abcdefgh"}, {edited, "abcxdef"},
	}
	for _, c := range tests {
		wantText(t, c.r, c.want, api.OK)
	}
}

func TestNoStateBetweenCalls(t *testing.T) { // P2
	right := []api.Rope{{}, rope("a"), rope("ab", "cd"), rope("ab", "c", "d")}
	for range 2 {
		for _, a := range right {
			compareCut(t, a)
			compareEdits(t, a, "", "x", ink(200), ink(201))
			for _, b := range right {
				compareJoin(t, a, b)
			}
		}
		expectWrong(t, rope(""), api.ErrEmpty)
		expectWrong(t, rope(ink(201)), api.ErrLarge)
		wantOf(t, "abc", 2, rope("ab", "c"), api.OK)
		wantOf(t, "abc", 0, rope(), api.ErrArg)
	}
}
