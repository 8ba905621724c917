package rules

import (
	"slices"
	"testing"

	"volute/api"
	"volute/gf2"
)

func div(in [][]int) ([][]int, api.Errno) {
	quotient, rest, e := gf2.Div(in[0], in[1])
	return [][]int{quotient, rest}, e
}

func TestGf2(t *testing.T) {
	full := slices.Repeat([]int{1, 0}, api.MaxBits/2)
	polynomials := [][]int{
		{}, {0}, {1}, {0, 0, 0}, {0, 0, 1}, {1, 0}, {1, 1}, {1, 0, 1, 1}, {0, 1, 0, 1, 1},
		{2}, {1, -1}, slices.Repeat([]int{1, 1, 0}, 30), full, append(full, 1),
	}
	for _, a := range polynomials {
		checkLists(t, "Trim", one(gf2.Trim), a)
		for _, b := range polynomials {
			checkLists(t, "Add", two(gf2.Add), a, b)
			checkLists(t, "Mul", two(gf2.Mul), a, b)
			checkLists(t, "Div", div, a, b)
		}
	}
}

func TestGf2OneListTwice(t *testing.T) { // both polynomials may be one list
	a := []int{0, 1, 0, 1, 1}
	sum, e := gf2.Add(a, a)
	product, f := gf2.Mul(a, a)
	quotient, rest, g := gf2.Div(a, a)
	if len(sum) != 0 || !slices.Equal(product, []int{1, 0, 0, 0, 1, 0, 1}) || !slices.Equal(quotient, []int{1}) || len(rest) != 0 {
		t.Error(sum, product, quotient, rest)
	}
	if e != api.OK || f != api.OK || g != api.OK || !slices.Equal(a, []int{0, 1, 0, 1, 1}) {
		t.Error(e, f, g, a)
	}
}
