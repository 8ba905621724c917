package gf2_test

import (
	"slices"
	"testing"

	"volute/api"
	"volute/gf2"
)

// poly is the polynomial whose coefficients are the bits of n, trimmed; behind ahead noughts.
func poly(n uint64, ahead int) []int {
	l := make([]int, ahead)
	for k := 63; k >= 0; k-- {
		if n>>k != 0 {
			l = append(l, int(n>>k&1))
		}
	}
	return l
}

// lone is a polynomial of n coefficients, of which the one at place at is x and all others are 0.
func lone(n, at, x int) []int {
	l := make([]int, n)
	l[at] = x
	return l
}

// mulByHand is the product by the bits of numbers, not by rows as the package does it.
func mulByHand(a, b uint64) uint64 {
	out := uint64(0)
	for k := range 32 {
		out ^= a >> k & 1 * b << k
	}
	return out
}

func TestTrim(t *testing.T) { // P2.1
	const most = api.MaxBits
	for _, c := range []struct {
		name    string
		a, want []int
	}{
		{"nil", nil, nil},
		{"no element", []int{}, nil},
		{"0", []int{0}, nil},
		{"noughts", []int{0, 0, 0}, nil},
		{"1", []int{1}, []int{1}},
		{"trimmed already", []int{1, 0, 0}, []int{1, 0, 0}},
		{"a nought ahead", []int{0, 1}, []int{1}},
		{"noughts ahead and behind", []int{0, 0, 1, 0, 1, 1, 0}, []int{1, 0, 1, 1, 0}},
		{"longest, first 1", lone(most, 0, 1), lone(most, 0, 1)},
		{"longest, last 1", lone(most, most-1, 1), []int{1}},
		{"longest, noughts", make([]int, most), nil},
	} {
		got, e := gf2.Trim(c.a)
		if !slices.Equal(got, c.want) || e != api.OK {
			t.Errorf("%s: %d coefficients, %d", c.name, len(got), e)
		}
	}
}

func TestAdd(t *testing.T) { // P2.1
	const most = api.MaxBits
	ends := lone(most, 0, 1)
	ends[most-1] = 1
	for _, c := range []struct {
		name       string
		a, b, want []int
	}{
		{"nothing", nil, nil, nil},
		{"noughts and nothing", []int{0, 0}, nil, nil},
		{"noughts and one", []int{0, 0}, []int{1}, []int{1}},
		{"of one length", []int{1, 0, 1}, []int{1, 1, 0}, []int{1, 1}},
		{"all goes", []int{1, 0, 1}, []int{0, 0, 1, 0, 1}, nil},
		{"shorter", []int{1, 0, 1, 1}, []int{1, 1}, []int{1, 0, 0, 0}},
		{"longest and 1", lone(most, 0, 1), []int{1}, ends},
		{"longest, all but the last goes", lone(most, 0, 1), ends, []int{1}},
		{"longest, all goes", lone(most, 0, 1), lone(most, 0, 1), nil},
	} {
		for _, p := range [][2][]int{{c.a, c.b}, {c.b, c.a}} {
			got, e := gf2.Add(p[0], p[1])
			if !slices.Equal(got, c.want) || e != api.OK {
				t.Errorf("%s: %d coefficients, %d", c.name, len(got), e)
			}
		}
	}
}

func TestMul(t *testing.T) { // P2.1
	const most, half = api.MaxBits, api.MaxBits / 2
	for _, c := range []struct {
		name       string
		a, b, want []int
	}{
		{"nothing", nil, nil, nil},
		{"noughts and nothing", []int{0, 0}, nil, nil},
		{"noughts", []int{0, 0}, []int{0, 1, 1}, nil},
		{"by 1", []int{1, 0, 1}, []int{0, 1}, []int{1, 0, 1}},
		{"square", []int{1, 1, 1}, []int{1, 1, 1}, []int{1, 0, 1, 0, 1}},
		{"three ones", []int{1, 0, 1}, []int{1, 1}, []int{1, 1, 1, 1}},
		{"together the most", lone(half, 0, 1), lone(half, 0, 1), lone(most-1, 0, 1)},
		{"together the most, one short", lone(most-1, 0, 1), []int{1}, lone(most-1, 0, 1)},
		{"trimmed together the most", lone(most, 1, 1), []int{0, 0, 1}, lone(most-1, 0, 1)},
		{"longest by nothing", lone(most, 0, 1), nil, nil},
		{"longest by noughts", lone(most, 0, 1), make([]int, most), nil},
		{"longest noughts", make([]int, most), make([]int, most), nil},
		{"longest rows of few coefficients", lone(most, most-2, 1), lone(most, most-3, 1), []int{1, 0, 0, 0}},
	} {
		for _, p := range [][2][]int{{c.a, c.b}, {c.b, c.a}} {
			got, e := gf2.Mul(p[0], p[1])
			if !slices.Equal(got, c.want) || e != api.OK {
				t.Errorf("%s: %d coefficients, %d", c.name, len(got), e)
			}
		}
	}
}

func TestDiv(t *testing.T) { // P2.2
	const most = api.MaxBits
	full := slices.Repeat([]int{1}, most)
	for _, c := range []struct {
		name                 string
		a, m, quotient, rest []int
	}{
		{"example 1", []int{1, 0, 1}, []int{1, 1}, []int{1, 1}, nil},
		{"nothing by 1", nil, []int{1}, nil, nil},
		{"noughts by noughts ahead", []int{0, 0, 0}, []int{0, 1, 1}, nil, nil},
		{"by 1", []int{0, 1, 1, 0, 1}, []int{1}, []int{1, 1, 0, 1}, nil},
		{"by itself", []int{1, 0, 1, 1}, []int{0, 0, 1, 0, 1, 1}, []int{1}, nil},
		{"by a longer one", []int{0, 0, 0, 0, 1, 1}, []int{1, 0, 1}, nil, []int{1, 1}},
		{"by one as long", []int{1, 1, 1}, []int{1, 0, 0}, []int{1}, []int{1, 1}},
		{"rest behind noughts", []int{1, 0, 0, 1}, []int{1, 0, 0}, []int{1, 0}, []int{1}},
		{"noughts in the quotient", []int{1, 0, 0, 0, 0, 1, 0}, []int{1, 0, 0}, []int{1, 0, 0, 0, 0}, []int{1, 0}},
		{"longest by 1", full, lone(most, most-1, 1), full, nil},
		{"longest by longest", full, lone(most, 0, 1), []int{1}, full[1:]},
		{"longest by one less", full, lone(most-1, 0, 1), []int{1, 1}, full[2:]},
		{"shorter by longest", full[1:], full, nil, full[1:]},
		{"longest by 1 1", full, []int{1, 1}, slices.Repeat([]int{1, 0}, most/2)[:most-1], nil},
	} {
		quotient, rest, e := gf2.Div(c.a, c.m)
		if !slices.Equal(quotient, c.quotient) || !slices.Equal(rest, c.rest) || e != api.OK {
			t.Errorf("%s: %d and %d coefficients, %d", c.name, len(quotient), len(rest), e)
		}
	}
}

func TestLongDiv(t *testing.T) { // P2.2: the law itself, where the lengths are at their edge
	const most = api.MaxBits
	odd := make([]int, most)
	for i := range odd {
		odd[i] = i * i / 7 & 1
	}
	odd[0] = 1
	for _, length := range []int{1, 2, 17, most / 2, most/2 + 1, most - 1, most} {
		m := odd[:length]
		quotient, rest, e := gf2.Div(odd, m)
		if e != api.OK || len(quotient) != most-length+1 || quotient[0] != 1 || len(rest) >= length || len(rest) > 0 && rest[0] != 1 {
			t.Error(length, len(quotient), len(rest), e)
		}
		// Div's quotient and divisor have one coefficient too many together for Mul: the first one of the quotient is multiplied alone.
		low, e := gf2.Mul(quotient[1:], m)
		high := append(slices.Clone(m), make([]int, most-length)...)
		sum, f := gf2.Add(low, rest)
		sum, g := gf2.Add(sum, high)
		if !slices.Equal(sum, odd) || e != api.OK || f != api.OK || g != api.OK {
			t.Error(length, "the law does not hold", e, f, g)
		}
	}
}

func TestAgainstNumbers(t *testing.T) { // P2.1, P2.2: all small polynomials, with noughts ahead of them
	const many = 1 << 6
	for a := range uint64(many) {
		for b := range uint64(many) {
			p, q := poly(a, int(b%3)), poly(b, int(a%4))
			trim, e := gf2.Trim(p)
			sum, f := gf2.Add(p, q)
			product, g := gf2.Mul(p, q)
			if !slices.Equal(trim, poly(a, 0)) || !slices.Equal(sum, poly(a^b, 0)) || !slices.Equal(product, poly(mulByHand(a, b), 0)) || e+f+g != api.OK {
				t.Fatal(a, b, trim, sum, product, e, f, g)
			}
		}
	}
}
