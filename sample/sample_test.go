package sample

import (
	"slices"
	"testing"
)

func TestWords(t *testing.T) {
	want := []string{"", "a", "b", "aa", "ab", "ba", "bb"}
	if l := Words("ab", 2); !slices.Equal(l, want) {
		t.Error(l)
	}
	if l := Words("ab", 0); !slices.Equal(l, []string{""}) {
		t.Error(l)
	}
}

func TestLists(t *testing.T) {
	want := [][]string{nil, {"a"}, {"b"}, {"a", "b"}, {"b", "a"}}
	for _, n := range []int{2, 3} {
		if l := Lists([]string{"a", "b"}, n); !slices.EqualFunc(l, want, slices.Equal) {
			t.Errorf("%q", l)
		}
	}
	if l := Lists([]string{"a", "b"}, 0); !slices.EqualFunc(l, want[:1], slices.Equal) {
		t.Errorf("%q", l)
	}
}

func TestNumbers(t *testing.T) {
	want := [][]int{nil, {1}, {2}, {1, 1}, {1, 2}, {2, 1}, {2, 2}}
	if l := Numbers(2, 2); !slices.EqualFunc(l, want, slices.Equal) {
		t.Error(l)
	}
	if l := Numbers(2, 0); !slices.EqualFunc(l, want[:1], slices.Equal) {
		t.Error(l)
	}
}

func TestFibonacci(t *testing.T) {
	if s := Fibonacci(11); s != "abaababaaba" {
		t.Error(s)
	}
	if s := Fibonacci(0); s != "" {
		t.Error(s)
	}
}

func TestRamp(t *testing.T) {
	if s := Ramp(254, 1, 4); s != "\xfe\xff\x00\x01" {
		t.Errorf("%q", s)
	}
	if s := Ramp(1, -1, 3); s != "\x01\x00\xff" {
		t.Errorf("%q", s)
	}
	if s := Ramp(7, 1, 0); s != "" {
		t.Errorf("%q", s)
	}
}

func TestApart(t *testing.T) {
	l := make([]int, 6)
	if Apart(l[:2], l[1:]) || Apart(l[:2], l[4:]) || Apart(l, l[5:]) {
		t.Error("shared memory was not seen")
	}
	if !Apart(l[:2:2], l[2:]) || !Apart(l, nil, make([]int, 6)) {
		t.Error("separate memory was taken for shared")
	}
}
