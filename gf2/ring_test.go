package gf2_test

import (
	"slices"
	"testing"

	"volute/api"
	"volute/gf2"
)

func add(t *testing.T, a, b []int) []int {
	t.Helper()
	sum, e := gf2.Add(a, b)
	if e != api.OK {
		t.Fatal(a, b, e)
	}
	return sum
}

func mul(t *testing.T, a, b []int) []int {
	t.Helper()
	product, e := gf2.Mul(a, b)
	if e != api.OK {
		t.Fatal(a, b, e)
	}
	return product
}

func TestRing(t *testing.T) { // P2.3
	one, none := []int{1}, []int(nil)
	same := func(law string, a, b []int) {
		if !slices.Equal(a, b) {
			t.Fatal(law, a, b)
		}
	}
	numbers := []uint64{0, 1, 2, 3, 5, 6, 11, 19, 29, 64, 85, 127, 0x11021, 0x104c11db7}
	for _, x := range numbers {
		a := poly(x, 0)
		same("a + 0", add(t, a, none), a)
		same("a + a", add(t, a, a), none)
		same("a 1", mul(t, a, one), a)
		same("a 0", mul(t, a, none), none)
		for _, y := range numbers {
			b := poly(y, 2)
			same("a + b", add(t, a, b), add(t, b, a))
			same("a b", mul(t, a, b), mul(t, b, a))
			for _, z := range numbers {
				c := poly(z, 1)
				same("a + b + c", add(t, a, add(t, b, c)), add(t, add(t, a, b), c))
				same("a b c", mul(t, a, mul(t, b, c)), mul(t, mul(t, a, b), c))
				same("a (b + c)", mul(t, a, add(t, b, c)), add(t, mul(t, a, b), mul(t, a, c)))
			}
		}
	}
}

func TestRestJustOnce(t *testing.T) { // P2.3: each sum of a multiple of m and of a shorter rest leads back to both
	for m := uint64(1); m < 40; m++ {
		divisor := poly(m, 0)
		for q := range uint64(40) {
			for r := uint64(0); len(poly(r, 0)) < len(divisor); r++ {
				a := add(t, mul(t, poly(q, 0), divisor), poly(r, 0))
				quotient, rest, e := gf2.Div(a, divisor)
				if !slices.Equal(quotient, poly(q, 0)) || !slices.Equal(rest, poly(r, 0)) || e != api.OK {
					t.Fatal(a, divisor, quotient, rest, e)
				}
			}
		}
	}
}
