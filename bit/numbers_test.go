package bit_test

import (
	"bytes"
	"math"
	"testing"

	"volute/api"
	"volute/bit"
)

func TestPut(t *testing.T) { // P1.2
	const most = api.MaxBytes
	for _, c := range []struct {
		name    string
		b       []byte
		n, size int
		want    []byte
		e       api.Errno
	}{
		{"behind nothing", nil, 258, 2, []byte{1, 2}, api.OK},
		{"behind some", []byte{9, 8}, 0x010203, 3, []byte{9, 8, 1, 2, 3}, api.OK},
		{"noughts ahead", []byte{9}, 7, 4, []byte{9, 0, 0, 0, 7}, api.OK},
		{"nought", nil, 0, 1, []byte{0}, api.OK},
		{"greatest of 1", nil, 1<<8 - 1, 1, []byte{255}, api.OK},
		{"greatest of 2", nil, 1<<16 - 1, 2, []byte{255, 255}, api.OK},
		{"greatest of 3", nil, 1<<24 - 1, 3, []byte{255, 255, 255}, api.OK},
		{"greatest of 4", nil, 1<<32 - 1, 4, []byte{255, 255, 255, 255}, api.OK},
		{"one more than of 1", nil, 1 << 8, 1, nil, api.ErrArg},
		{"one more than of 2", nil, 1 << 16, 2, nil, api.ErrArg},
		{"one more than of 3", nil, 1 << 24, 3, nil, api.ErrArg},
		{"one more than of 4", nil, 1 << 32, 4, nil, api.ErrArg},
		{"highest bit of 4", nil, 1 << 31, 4, []byte{128, 0, 0, 0}, api.OK},
		{"greatest there is", nil, math.MaxInt, 4, nil, api.ErrArg},
		{"-1", nil, -1, 4, nil, api.ErrArg},
		{"least there is", nil, math.MinInt, 1, nil, api.ErrArg},
		{"size 0", nil, 0, 0, nil, api.ErrArg},
		{"size 5", nil, 0, 5, nil, api.ErrArg},
		{"size -1", nil, 0, -1, nil, api.ErrArg},
		{"least size", nil, 0, math.MinInt, nil, api.ErrArg},
		{"greatest size", nil, 0, math.MaxInt, nil, api.ErrArg},
		{"longest with 1", fill(most - 1), 5, 1, append(fill(most-1), 5), api.OK},
		{"one more with 1", fill(most), 5, 1, nil, api.ErrLen},
		{"longest with 4", fill(most - 4), 5, 4, append(fill(most-4), 0, 0, 0, 5), api.OK},
		{"one more with 4", fill(most - 3), 5, 4, nil, api.ErrLen},
		{"too long, n too great", fill(most), 256, 1, nil, api.ErrArg},
		{"too long, n below 0", fill(most), -1, 1, nil, api.ErrArg},
		{"too long, size 0", fill(most + 1), 0, 0, nil, api.ErrArg},
		{"too long, size 5", fill(most + 1), 0, 5, nil, api.ErrArg},
	} {
		got, e := bit.Put(c.b, c.n, c.size)
		if !bytes.Equal(got, c.want) || e != c.e {
			t.Errorf("%s: %d bytes, %d", c.name, len(got), e)
		}
	}
}

func TestGet(t *testing.T) { // P1.2
	b := []byte{1, 2, 3, 255, 254, 253, 252}
	for _, c := range []struct {
		name     string
		b        []byte
		at, size int
		want     int
		e        api.Errno
	}{
		{"1 at the beginning", b, 0, 1, 1, api.OK},
		{"2 inside", b, 1, 2, 0x0203, api.OK},
		{"3 inside", b, 2, 3, 0x03fffe, api.OK},
		{"4 at the beginning", b, 0, 4, 0x010203ff, api.OK},
		{"4 at the end", b, 3, 4, 0xfffefdfc, api.OK},
		{"1 at the end", b, 6, 1, 252, api.OK},
		{"1 behind the end", b, 7, 1, 0, api.ErrBytes},
		{"2 over the end", b, 6, 2, 0, api.ErrBytes},
		{"4 over the end", b, 4, 4, 0, api.ErrBytes},
		{"of nothing", nil, 0, 1, 0, api.ErrBytes},
		{"of fewer", b[:3], 0, 4, 0, api.ErrBytes},
		{"beyond the end", b, 8, 1, 0, api.ErrArg},
		{"beyond nothing", nil, 1, 1, 0, api.ErrArg},
		{"at -1", b, -1, 1, 0, api.ErrArg},
		{"least at", b, math.MinInt, 4, 0, api.ErrArg},
		{"greatest at", b, math.MaxInt, 4, 0, api.ErrArg},
		{"size 0", b, 0, 0, 0, api.ErrArg},
		{"size 5", b, 0, 5, 0, api.ErrArg},
		{"size -1", b, 2, -1, 0, api.ErrArg},
		{"least size", b, 7, math.MinInt, 0, api.ErrArg},
		{"greatest size", b, 7, math.MaxInt, 0, api.ErrArg},
		{"size 5, and too few", b, 7, 5, 0, api.ErrArg},
		{"the greatest", []byte{255, 255, 255, 255}, 0, 4, 1<<32 - 1, api.OK},
		{"of the longest", fill(api.MaxBytes), api.MaxBytes - 1, 1, int(fill(api.MaxBytes)[api.MaxBytes-1]), api.OK},
		{"of a longer one", append(make([]byte, api.MaxBytes), 7), api.MaxBytes, 1, 7, api.OK}, // P1.2 names no ErrLen
	} {
		got, e := bit.Get(c.b, c.at, c.size)
		if got != c.want || e != c.e {
			t.Errorf("%s: %d, %d", c.name, got, e)
		}
	}
}

func TestPutAndGet(t *testing.T) { // P1.4
	for size := 1; size <= 4; size++ {
		for _, n := range []int{0, 1, 127, 128, 255, 0x1234, 0x123456, 0x12345678, 0x87654321, 1<<(8*size) - 1} {
			n %= 1 << (8 * size)
			for _, length := range []int{0, 1, 7, api.MaxBytes - 4} {
				b, e := bit.Put(fill(length), n, size)
				got, f := bit.Get(b, length, size)
				if got != n || e != api.OK || f != api.OK {
					t.Errorf("%d in %d bytes behind %d: %d, %d, %d", n, size, length, got, e, f)
				}
			}
		}
	}
}

func TestTurn(t *testing.T) { // P1.3
	longest := fill(api.MaxBytes)
	turned := make([]byte, api.MaxBytes)
	for i, x := range longest {
		turned[i] = 255 - x
	}
	for _, c := range []struct {
		name          string
		b, mask, want []byte
		e             api.Errno
	}{
		{"nothing", nil, nil, nil, api.OK},
		{"no text", nil, []byte{1}, nil, api.OK},
		{"no mask", []byte{5, 6}, nil, []byte{5, 6}, api.OK},
		{"as long", []byte{0x0f, 0xff, 0x00}, []byte{0x33, 0xff, 0x81}, []byte{0x3c, 0x00, 0x81}, api.OK},
		{"shorter mask", []byte{1, 2, 3}, []byte{3}, []byte{2, 2, 3}, api.OK},
		{"longer mask", []byte{1}, []byte{255, 9}, []byte{254}, api.OK},
		{"longest", longest, bytes.Repeat([]byte{255}, api.MaxBytes), turned, api.OK},
		{"longest text alone", longest, nil, longest, api.OK},
		{"longest mask alone", []byte{1}, bytes.Repeat([]byte{2}, api.MaxBytes), []byte{3}, api.OK},
		{"text too long", fill(api.MaxBytes + 1), []byte{1}, nil, api.ErrLen},
		{"mask too long", []byte{1}, fill(api.MaxBytes + 1), nil, api.ErrLen},
		{"mask too long for nothing", nil, fill(api.MaxBytes + 1), nil, api.ErrLen},
		{"both too long", fill(api.MaxBytes + 1), fill(api.MaxBytes + 1), nil, api.ErrLen},
	} {
		got, e := bit.Turn(c.b, c.mask)
		if !bytes.Equal(got, c.want) || e != c.e {
			t.Errorf("%s: %d bytes, %d", c.name, len(got), e)
		}
	}
}

func TestTurnTwice(t *testing.T) { // P1.4
	for _, n := range []int{0, 1, 5, api.MaxBytes} {
		for _, m := range []int{0, 1, 4, 6, api.MaxBytes} {
			b, mask := fill(n), bytes.Repeat([]byte{0xd6}, m)
			once, _ := bit.Turn(b, mask)
			twice, e := bit.Turn(once, mask)
			if !bytes.Equal(twice, b) || e != api.OK {
				t.Errorf("%d bytes, a mask of %d: %d bytes, %d", n, m, len(twice), e)
			}
			if n > 0 && m > 0 && bytes.Equal(once, b) {
				t.Errorf("%d bytes, a mask of %d: nothing is turned", n, m)
			}
		}
	}
}

func TestOnes(t *testing.T) { // P1.3
	for _, c := range []struct{ n, want int }{
		{0, 0}, {1, 1}, {7, 3}, {8, 1}, {0x55555555, 16},
		{1 << 31, 1}, {1<<31 - 1, 31}, {1<<32 - 1, 32},
		{1 << 32, 0}, {1<<32 | 1, 1}, {1<<40 | 5, 2}, {math.MaxInt, 32},
		{-1, 0}, {-2, 0}, {-1 << 31, 0}, {-1<<32 | 7, 0}, {math.MinInt, 0},
	} {
		if got := bit.Ones(c.n); got != c.want {
			t.Errorf("of %d: %d, not %d", c.n, got, c.want)
		}
	}
	for k := range 32 {
		if bit.Ones(1<<k) != 1 || bit.Ones(1<<k-1) != k {
			t.Errorf("around bit %d: %d, %d", k, bit.Ones(1<<k), bit.Ones(1<<k-1))
		}
	}
}
