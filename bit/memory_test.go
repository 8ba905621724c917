package bit_test

import (
	"slices"
	"testing"

	"volute/api"
	"volute/bit"
)

// room is how many elements stand behind the length of each list that is handed in here.
const room = 16

// roomy is l, with room behind its length that is filled with x.
func roomy[T any](l []T, x T) []T {
	all := slices.Grow(slices.Clone(l), room)
	for range room {
		all = append(all, x)
	}
	return all[:len(l)]
}

func whole[T any](l []T) []T { return l[:cap(l)] }

// spoil writes all over an answer, its spare room too.
func spoil[T byte | int](l []T) {
	for i := range whole(l) {
		whole(l)[i] ^= 0x5a
	}
}

// checkMemory holds call to R2 and R6: what is handed in stays and is not handed out, what lies behind its length is not read, and each answer is new memory.
func checkMemory[In, Out byte | int](t *testing.T, name string, in []In, call func([]In) ([]Out, api.Errno)) {
	t.Helper()
	given := roomy(in, 1)
	was := slices.Clone(whole(given))
	first, e := call(given)
	want := slices.Clone(first)
	second, _ := call(given)
	other, f := call(roomy(in, 0))
	if e != f || !slices.Equal(want, other) {
		t.Errorf("%s: the answer hangs on what lies behind the length", name)
	}
	if !slices.Equal(whole(given), was) {
		t.Errorf("%s: what was handed in is changed", name)
	}
	spoil(first)
	if !slices.Equal(whole(given), was) {
		t.Errorf("%s: the answer shares memory with what was handed in", name)
	}
	third, _ := call(given)
	if !slices.Equal(second, want) || !slices.Equal(third, want) {
		t.Errorf("%s: one answer is touched by another one", name)
	}
	spoil(given)
	if !slices.Equal(second, want) {
		t.Errorf("%s: the answer changes with what was handed in", name)
	}
}

func TestMemory(t *testing.T) { // R2, R6
	put := func(b []byte) ([]byte, api.Errno) { return bit.Put(b, 0x0102, 2) }
	turnBy := func(mask []byte) func([]byte) ([]byte, api.Errno) {
		return func(b []byte) ([]byte, api.Errno) { return bit.Turn(b, mask) }
	}
	turnOf := func(b []byte) func([]byte) ([]byte, api.Errno) {
		return func(mask []byte) ([]byte, api.Errno) { return bit.Turn(b, mask) }
	}
	get := func(b []byte) ([]int, api.Errno) {
		n, e := bit.Get(b, 1, 3)
		return []int{n}, e
	}
	for _, b := range [][]byte{{}, {7}, {1, 2, 3}, {1, 2, 3, 4, 5}, fill(100), fill(api.MaxBytes), fill(api.MaxBytes + 1)} {
		checkMemory(t, "Bits", b, bit.Bits)
		checkMemory(t, "Nibbles", b, bit.Nibbles)
		checkMemory(t, "Put", b, put)
		checkMemory(t, "Get", b, get)
		checkMemory(t, "Turn, no mask", b, turnBy(nil))
		checkMemory(t, "Turn, short mask", b, turnBy([]byte{9}))
		checkMemory(t, "Turn, long mask", b, turnBy(fill(api.MaxBytes)))
		checkMemory(t, "Turn's mask, no text", b, turnOf(nil))
		checkMemory(t, "Turn's mask, short text", b, turnOf([]byte{9, 8}))
		checkMemory(t, "Turn's mask, long text", b, turnOf(fill(api.MaxBytes)))
	}
	for _, l := range [][]int{{}, {1}, {1, 0}, {1, 0, 1, 0, 0, 1, 0, 1}, {0, 0, 0, 0, 0, 0, 0, 16}, make([]int, api.MaxBits), make([]int, api.MaxBits+8)} {
		checkMemory(t, "Pack", l, bit.Pack)
		checkMemory(t, "Join", l, bit.Join)
	}
}

func TestTurnByItself(t *testing.T) { // R2: text and mask may be one list
	b := []byte{1, 2, 3}
	got, e := bit.Turn(b, b)
	if !slices.Equal(got, []byte{0, 0, 0}) || e != api.OK || !slices.Equal(b, []byte{1, 2, 3}) {
		t.Error(got, e, b)
	}
}
