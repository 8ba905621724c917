package gf2_test

import (
	"math"
	"testing"

	"volute/api"
	"volute/gf2"
)

func TestErrors(t *testing.T) { // P2.1, P2.2, R4
	const most, half = api.MaxBits, api.MaxBits / 2
	long, wrong := make([]int, most+1), []int{1, 2}
	longAndWrong := lone(most+1, most, 2)
	for _, c := range []struct {
		name          string
		a, b          []int
		add, mul, div api.Errno
	}{
		{"one more than the most", long, []int{1}, api.ErrLen, api.ErrLen, api.ErrLen},
		{"one more than the most, second", []int{1}, long, api.ErrLen, api.ErrLen, api.ErrLen},
		{"much too long", make([]int, 3*most), []int{1}, api.ErrLen, api.ErrLen, api.ErrLen},
		{"too long, and wrong", longAndWrong, []int{1}, api.ErrLen, api.ErrLen, api.ErrLen},
		{"too long behind wrong", wrong, long, api.ErrLen, api.ErrLen, api.ErrLen},
		{"wrong behind too long", long, wrong, api.ErrLen, api.ErrLen, api.ErrLen},
		{"too long, by nothing", long, nil, api.ErrLen, api.ErrLen, api.ErrLen},
		{"2 last", wrong, []int{1}, api.ErrArg, api.ErrArg, api.ErrArg},
		{"2 last, second", []int{1}, wrong, api.ErrArg, api.ErrArg, api.ErrArg},
		{"2 first", []int{2, 1}, []int{1}, api.ErrArg, api.ErrArg, api.ErrArg},
		{"2 behind noughts", []int{0, 0, 2, 1}, []int{1}, api.ErrArg, api.ErrArg, api.ErrArg},
		{"-1", []int{1}, []int{1, -1, 1}, api.ErrArg, api.ErrArg, api.ErrArg},
		{"greatest", []int{math.MaxInt}, []int{1}, api.ErrArg, api.ErrArg, api.ErrArg},
		{"least", []int{math.MinInt}, []int{1}, api.ErrArg, api.ErrArg, api.ErrArg},
		{"a word's worth above 1", []int{1<<32 + 1}, []int{1}, api.ErrArg, api.ErrArg, api.ErrArg},
		{"a byte's worth above 0", []int{1, 256}, []int{1}, api.ErrArg, api.ErrArg, api.ErrArg},
		{"wrong at the end of the longest", lone(most, most-1, 2), []int{1}, api.ErrArg, api.ErrArg, api.ErrArg},
		{"wrong, with nothing", wrong, nil, api.ErrArg, api.ErrArg, api.ErrArg},
		{"wrong, with noughts", wrong, []int{0, 0}, api.ErrArg, api.ErrArg, api.ErrArg},
		{"wrong, the other 0", nil, wrong, api.ErrArg, api.ErrArg, api.ErrArg},
		{"m has no element", []int{1, 0, 1}, []int{}, api.OK, api.OK, api.ErrArg},
		{"m is nil", []int{1, 0, 1}, nil, api.OK, api.OK, api.ErrArg},
		{"m is a nought", []int{1, 0, 1}, []int{0}, api.OK, api.OK, api.ErrArg},
		{"m is all noughts", nil, make([]int, most), api.OK, api.OK, api.ErrArg},
		{"together one more than the most", lone(half+1, 0, 1), lone(half, 0, 1), api.OK, api.ErrLen, api.OK},
		{"together one more, 1 the other", lone(most, 0, 1), []int{0, 1}, api.OK, api.ErrLen, api.OK},
		{"trimmed together one more", lone(most, 1, 1), []int{0, 1, 0}, api.OK, api.ErrLen, api.OK},
		{"together twice the most", lone(most, 0, 1), lone(most, 0, 1), api.OK, api.ErrLen, api.OK},
		{"together too long, and wrong", lone(most, 0, 1), wrong, api.ErrArg, api.ErrArg, api.ErrArg},
		{"together too long, and wrong, first", lone(most, most-1, 2), lone(most, 0, 1), api.ErrArg, api.ErrArg, api.ErrArg},
	} {
		sum, e := gf2.Add(c.a, c.b)
		if e != c.add || e != api.OK && len(sum) != 0 {
			t.Errorf("Add, %s: %d coefficients, %d", c.name, len(sum), e)
		}
		product, e := gf2.Mul(c.a, c.b)
		if e != c.mul || e != api.OK && len(product) != 0 {
			t.Errorf("Mul, %s: %d coefficients, %d", c.name, len(product), e)
		}
		quotient, rest, e := gf2.Div(c.a, c.b)
		if e != c.div || e != api.OK && len(quotient)+len(rest) != 0 {
			t.Errorf("Div, %s: %d and %d coefficients, %d", c.name, len(quotient), len(rest), e)
		}
	}
	for _, c := range []struct {
		name string
		a    []int
		e    api.Errno
	}{
		{"one more than the most", long, api.ErrLen},
		{"too long, and wrong", longAndWrong, api.ErrLen},
		{"2", wrong, api.ErrArg},
		{"-1 behind noughts", []int{0, 0, -1}, api.ErrArg},
		{"2 first", []int{2, 1}, api.ErrArg},
		{"wrong at the end of the longest", lone(most, most-1, -1), api.ErrArg},
	} {
		got, e := gf2.Trim(c.a)
		if e != c.e || len(got) != 0 {
			t.Errorf("Trim, %s: %d coefficients, %d", c.name, len(got), e)
		}
	}
}
