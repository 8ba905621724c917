// Package rules holds the layers to the document's rules R2, R4 and R6, which are the same for all of them. It has tests alone.
package rules

import (
	"slices"
	"testing"

	"volute/api"
)

// room is how many elements stand behind the length of each list that is handed in here.
const room = 16

// element is what the lists that are handed in and answered here have.
type element interface {
	byte | int | uint32 | api.Sym
}

// turn makes another element of x, unless n is 0.
func turn[T element](x *T, n int) {
	switch x := any(x).(type) {
	case *byte:
		*x ^= byte(n)
	case *int:
		*x ^= n
	case *uint32:
		*x ^= uint32(n)
	case *api.Sym:
		x.At ^= n
		x.Value ^= n
	}
}

// roomy is a copy of lists, each with room behind its length that is filled with n.
func roomy[T element](lists [][]T, n int) [][]T {
	var x T
	turn(&x, n)
	out := make([][]T, len(lists))
	for i, l := range lists {
		out[i] = append(slices.Clone(l), slices.Repeat([]T{x}, room)...)[:len(l)]
	}
	return out
}

func whole[T any](l []T) []T { return l[:cap(l)] }

// wholes is a copy of lists, with what stands behind their lengths.
func wholes[T any](lists [][]T) [][]T {
	out := make([][]T, len(lists))
	for i, l := range lists {
		out[i] = slices.Clone(whole(l))
	}
	return out
}

func copies[T any](lists [][]T) [][]T {
	out := make([][]T, len(lists))
	for i, l := range lists {
		out[i] = slices.Clone(l)
	}
	return out
}

func equal[T comparable](a, b [][]T) bool { return slices.EqualFunc(a, b, slices.Equal) }

// spoil writes all over a list, its spare room too.
func spoil[T element](l []T) {
	for i := range whole(l) {
		turn(&whole(l)[i], 0x5a)
	}
}

// lists is a call that takes and answers lists.
type lists[In, Out any] func([][]In) ([][]Out, api.Errno)

func one[In, Out any](call func([]In) ([]Out, api.Errno)) lists[In, Out] {
	return func(in [][]In) ([][]Out, api.Errno) {
		out, e := call(in[0])
		return [][]Out{out}, e
	}
}

func two[In, Out any](call func(a, b []In) ([]Out, api.Errno)) lists[In, Out] {
	return func(in [][]In) ([][]Out, api.Errno) {
		out, e := call(in[0], in[1])
		return [][]Out{out}, e
	}
}

// table is a call that takes nothing and answers a list.
func table[Out any](call func() []Out) lists[byte, Out] {
	return func([][]byte) ([][]Out, api.Errno) { return [][]Out{call()}, api.OK }
}

// number is a call that takes a list and answers a number, told as a list: without an element, if it is 0, so that beside an error nothing else is let through.
func number[In any](call func([]In) (int, api.Errno)) lists[In, int] {
	return one(func(in []In) ([]int, api.Errno) {
		n, e := call(in)
		if n == 0 {
			return nil, e
		}
		return []int{n}, e
	})
}

// checkLists holds call to R2, R4 and R6: what is handed in stays and is not handed out, what lies behind its length is neither read nor handed out, each list that is answered is new memory, and beside an error all of them are empty.
func checkLists[In, Out element](t *testing.T, name string, call lists[In, Out], in ...[]In) {
	t.Helper()
	given := roomy(in, 1)
	was := wholes(given)
	first, e := call(given)
	want := copies(first)
	second, _ := call(given)
	kept := wholes(second)
	other, f := call(roomy(in, 0))
	if e != f || !equal(want, other) || !equal(kept, wholes(other)) {
		t.Errorf("%s: the answer hangs on what lies behind the length", name)
	}
	if e != api.OK && len(slices.Concat(want...)) != 0 {
		t.Errorf("%s: a list beside an error", name)
	}
	if !equal(wholes(given), was) {
		t.Errorf("%s: what was handed in is changed", name)
	}
	for i, l := range first {
		spoil(l)
		if !equal(first[i+1:], want[i+1:]) {
			t.Errorf("%s: two lists of one answer share memory", name)
		}
	}
	if !equal(wholes(given), was) {
		t.Errorf("%s: the answer shares memory with what was handed in", name)
	}
	third, _ := call(given)
	if !equal(second, want) || !equal(third, want) || !equal(wholes(second), kept) {
		t.Errorf("%s: one answer is touched by another one", name)
	}
	for _, l := range given {
		spoil(l)
	}
	if !equal(second, want) {
		t.Errorf("%s: the answer changes with what was handed in", name)
	}
	checkNothing(t, name, call, in)
}

// checkNothing holds call to R2's last words: nil and an empty list mean the same.
func checkNothing[In any, Out comparable](t *testing.T, name string, call lists[In, Out], in [][]In) {
	t.Helper()
	for i, l := range in {
		if len(l) != 0 {
			continue
		}
		bare, empty := slices.Clone(in), slices.Clone(in)
		bare[i], empty[i] = nil, []In{}
		a, e := call(bare)
		b, f := call(empty)
		if e != f || !equal(a, b) {
			t.Errorf("%s: nil and an empty list differ", name)
		}
	}
}
