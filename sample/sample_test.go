package sample

import (
	"slices"
	"strings"
	"testing"

	"quillward/api"
)

func TestWords(t *testing.T) {
	want := []string{"", "a", "b", "aa", "ab", "ba", "bb"}
	if l := Words("ab", 2); !slices.Equal(l, want) {
		t.Error(l)
	}
	if l := Words("ab", 0); !slices.Equal(l, []string{""}) {
		t.Error(l)
	}
}

func TestLists(t *testing.T) {
	want := [][]string{nil, {"a"}, {"b"}, {"a", "b"}, {"b", "a"}}
	for _, n := range []int{2, 3} {
		if l := Lists([]string{"a", "b"}, n); !slices.EqualFunc(l, want, slices.Equal) {
			t.Errorf("%q", l)
		}
	}
	if l := Lists([]string{"a", "b"}, 0); !slices.EqualFunc(l, want[:1], slices.Equal) {
		t.Errorf("%q", l)
	}
}

func TestNumbers(t *testing.T) {
	want := [][]int{nil, {1}, {2}, {1, 1}, {1, 2}, {2, 1}, {2, 2}}
	if l := Numbers(2, 2); !slices.EqualFunc(l, want, slices.Equal) {
		t.Error(l)
	}
	if l := Numbers(2, 0); !slices.EqualFunc(l, want[:1], slices.Equal) {
		t.Error(l)
	}
}

func TestScattered(t *testing.T) {
	l := Scattered(3, 100, -1, 2)
	if len(l) != 100 || slices.Min(l) != -1 || slices.Max(l) != 2 {
		t.Error(l)
	}
	if !slices.Equal(l, Scattered(3, 100, -1, 2)) || slices.Equal(l, Scattered(4, 100, -1, 2)) {
		t.Error("the numbers do not depend on the seed alone")
	}
	if l := Scattered(0, 0, 1, 1); len(l) != 0 {
		t.Error(l)
	}
}

func TestScatteredWord(t *testing.T) {
	s := ScatteredWord(3, 100, 4)
	if len(s) != 100 || strings.Trim(s, "\x00\x01\x02\x03") != "" || strings.Trim(s, "\x00\x01\x02") == "" {
		t.Errorf("%q", s)
	}
	if s := ScatteredWord(3, 5000, 256); strings.IndexByte(s, 0xff) < 0 || strings.IndexByte(s, 0) < 0 {
		t.Errorf("%q", s)
	}
	if s != ScatteredWord(3, 100, 4) || s == ScatteredWord(4, 100, 4) {
		t.Error("the word does not depend on the seed alone")
	}
	if s := ScatteredWord(0, 0, 1); s != "" {
		t.Errorf("%q", s)
	}
}

func TestBits(t *testing.T) {
	want := []string{"00000", "00001", "00010"}
	if l := Bits(3); !slices.Equal(l, want) {
		t.Error(l)
	}
	if l := Bits(32); len(l) != 32 || l[31] != "11111" {
		t.Error(l)
	}
	if l := Bits(0); len(l) != 0 {
		t.Error(l)
	}
}

func TestLengths(t *testing.T) {
	for _, lens := range Lengths() {
		sum := 0
		for _, n := range lens {
			sum += 4096 >> n
		}
		if len(lens) != 12 || slices.Min(lens) < 1 || slices.Max(lens) > 12 || sum > 4096 {
			t.Error(lens)
		}
	}
}

func TestFibonacci(t *testing.T) {
	if s := Fibonacci(11); s != "abaababaaba" {
		t.Error(s)
	}
	if s := Fibonacci(0); s != "" {
		t.Error(s)
	}
}

func TestRamp(t *testing.T) {
	if s := Ramp(254, 1, 4); s != "\xfe\xff\x00\x01" {
		t.Errorf("%q", s)
	}
	if s := Ramp(1, -1, 3); s != "\x01\x00\xff" {
		t.Errorf("%q", s)
	}
	if s := Ramp(7, 1, 0); s != "" {
		t.Errorf("%q", s)
	}
}

func TestLongWords(t *testing.T) {
	for _, n := range []int{0, 1, 37, 200} {
		for _, s := range LongWords(n) {
			if len(s) != n {
				t.Errorf("%q has not %d bytes", s, n)
			}
		}
	}
	l := LongWords(200)
	slices.Sort(l)
	if len(slices.Compact(l)) != 11 {
		t.Error("some words are equal")
	}
}

func TestScripts(t *testing.T) {
	want := [][]api.Edit{
		nil,
		{{Ins: "x"}},
		{{Ins: "x"}, {At: 1, Ins: "x"}},
		{{Del: 1}},
		{{Del: 1, Ins: "x"}},
		{{At: 1, Ins: "x"}},
	}
	if l := Scripts(0, 1, []string{"", "x"}); !slices.EqualFunc(l, want, slices.Equal) {
		t.Errorf("%#v", l)
	}
	if l := Scripts(1, 1, []string{"", "x"}); !slices.EqualFunc(l, [][]api.Edit{nil, want[5]}, slices.Equal) {
		t.Errorf("%#v", l)
	}
}

func TestScatteredScript(t *testing.T) {
	for seed := range 100 {
		l := ScatteredScript(seed, 100, 10, 5)
		for i, x := range l {
			if x.At < 0 || x.Del < 0 || x.At+x.Del > 100 || len(x.Ins) >= 5 || x.Del == 0 && x.Ins == "" {
				t.Errorf("%#v has a wrong edit %d", l, i)
			}
			if i > 0 && x.At <= l[i-1].At+l[i-1].Del {
				t.Errorf("%#v has edits that touch", l)
			}
		}
		if len(l) < 2 || len(l) > api.MaxEdits {
			t.Errorf("%#v has %d edits", l, len(l))
		}
	}
	l := ScatteredScript(3, 200, 5, 4)
	if !slices.Equal(l, ScatteredScript(3, 200, 5, 4)) || slices.Equal(l, ScatteredScript(4, 200, 5, 4)) {
		t.Error("the script does not depend on the seed alone")
	}
}

func TestApart(t *testing.T) {
	l := make([]int, 6)
	if Apart(l[:2], l[1:]) || Apart(l[:2], l[4:]) || Apart(l, l[5:]) {
		t.Error("shared memory was not seen")
	}
	if !Apart(l[:2:2], l[2:]) || !Apart(l, nil, make([]int, 6)) {
		t.Error("separate memory was taken for shared")
	}
}
