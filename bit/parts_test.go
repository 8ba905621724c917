package bit_test

import (
	"bytes"
	"math"
	"slices"
	"testing"

	"volute/api"
	"volute/bit"
)

// fill is a text of n bytes in which no short row comes again soon.
func fill(n int) []byte {
	b := make([]byte, n)
	for i := range b {
		b[i] = byte(i*151 + i>>8*37 + 11)
	}
	return b
}

// bitsByHand and nibblesByHand are worked out place by place, not byte by byte as the package does it.
func bitsByHand(b []byte) []int {
	l := make([]int, 8*len(b))
	for k := range l {
		if b[k/8]&(128>>(k%8)) != 0 {
			l[k] = 1
		}
	}
	return l
}

func nibblesByHand(b []byte) []int {
	l := make([]int, 2*len(b))
	for k := range l {
		l[k] = int(b[k/2]) / []int{16, 1}[k%2] % 16
	}
	return l
}

func TestBits(t *testing.T) { // P1.1
	for _, c := range []struct {
		name string
		b    []byte
		want []int
		e    api.Errno
	}{
		{"nil", nil, nil, api.OK},
		{"empty", []byte{}, nil, api.OK},
		{"highest bit", []byte{0x80}, []int{1, 0, 0, 0, 0, 0, 0, 0}, api.OK},
		{"lowest bit", []byte{0x01}, []int{0, 0, 0, 0, 0, 0, 0, 1}, api.OK},
		{"two bytes", []byte{0xa5, 0x0f}, []int{1, 0, 1, 0, 0, 1, 0, 1, 0, 0, 0, 0, 1, 1, 1, 1}, api.OK},
		{"longest", fill(api.MaxBytes), bitsByHand(fill(api.MaxBytes)), api.OK},
		{"one more", fill(api.MaxBytes + 1), nil, api.ErrLen},
	} {
		got, e := bit.Bits(c.b)
		if !slices.Equal(got, c.want) || e != c.e {
			t.Errorf("%s: %d bits, %d", c.name, len(got), e)
		}
	}
}

func TestNibbles(t *testing.T) { // P1.1
	for _, c := range []struct {
		name string
		b    []byte
		want []int
		e    api.Errno
	}{
		{"nil", nil, nil, api.OK},
		{"empty", []byte{}, nil, api.OK},
		{"example 1", []byte{0xa5}, []int{10, 5}, api.OK},
		{"edges", []byte{0xf0, 0x0f, 0x00, 0xff}, []int{15, 0, 0, 15, 0, 0, 15, 15}, api.OK},
		{"longest", fill(api.MaxBytes), nibblesByHand(fill(api.MaxBytes)), api.OK},
		{"one more", fill(api.MaxBytes + 1), nil, api.ErrLen},
	} {
		got, e := bit.Nibbles(c.b)
		if !slices.Equal(got, c.want) || e != c.e {
			t.Errorf("%s: %d nibbles, %d", c.name, len(got), e)
		}
	}
}

// row is n noughts, but x at the place at.
func row(n, at, x int) []int {
	l := make([]int, n)
	l[at] = x
	return l
}

func TestPack(t *testing.T) { // P1.1
	const most = api.MaxBits
	for _, c := range []struct {
		name string
		l    []int
		want []byte
		e    api.Errno
	}{
		{"nil", nil, nil, api.OK},
		{"empty", []int{}, nil, api.OK},
		{"highest bit", row(8, 0, 1), []byte{0x80}, api.OK},
		{"lowest bit", row(8, 7, 1), []byte{0x01}, api.OK},
		{"two bytes", []int{1, 0, 1, 0, 0, 1, 0, 1, 0, 0, 0, 0, 1, 1, 1, 1}, []byte{0xa5, 0x0f}, api.OK},
		{"longest", row(most, most-1, 1), append(make([]byte, most/8-1), 1), api.OK},
		{"one more", make([]int, most+1), nil, api.ErrLen},
		{"a byte more", make([]int, most+8), nil, api.ErrLen},
		{"one", row(1, 0, 1), nil, api.ErrLen},
		{"four", make([]int, 4), nil, api.ErrLen},
		{"seven", make([]int, 7), nil, api.ErrLen},
		{"nine", make([]int, 9), nil, api.ErrLen},
		{"2 first", row(8, 0, 2), nil, api.ErrArg},
		{"2 last", row(16, 15, 2), nil, api.ErrArg},
		{"-1 last", row(16, 15, -1), nil, api.ErrArg},
		{"greatest", row(8, 3, math.MaxInt), nil, api.ErrArg},
		{"least", row(8, 3, math.MinInt), nil, api.ErrArg},
		{"a byte's worth above 1", row(8, 3, 257), nil, api.ErrArg},
		{"2 at the end of the longest", row(most, most-1, 2), nil, api.ErrArg},
		{"not a multiple, and wrong", row(9, 0, 2), nil, api.ErrLen},
		{"too long, and wrong", row(most+8, 0, -1), nil, api.ErrLen},
	} {
		got, e := bit.Pack(c.l)
		if !bytes.Equal(got, c.want) || e != c.e {
			t.Errorf("%s: %d bytes, %d", c.name, len(got), e)
		}
	}
}

func TestJoin(t *testing.T) { // P1.1
	const most = api.MaxBits
	for _, c := range []struct {
		name string
		l    []int
		want []byte
		e    api.Errno
	}{
		{"nil", nil, nil, api.OK},
		{"empty", []int{}, nil, api.OK},
		{"example 1 back", []int{10, 5}, []byte{0xa5}, api.OK},
		{"edges", []int{15, 0, 0, 15}, []byte{0xf0, 0x0f}, api.OK},
		{"longest", row(most, most-1, 15), append(make([]byte, most/2-1), 15), api.OK},
		{"one more", make([]int, most+1), nil, api.ErrLen},
		{"two more", make([]int, most+2), nil, api.ErrLen},
		{"one", row(1, 0, 3), nil, api.ErrLen},
		{"three", make([]int, 3), nil, api.ErrLen},
		{"16 first", row(2, 0, 16), nil, api.ErrArg},
		{"16 last", row(4, 3, 16), nil, api.ErrArg},
		{"-1 last", row(4, 3, -1), nil, api.ErrArg},
		{"greatest", row(2, 1, math.MaxInt), nil, api.ErrArg},
		{"least", row(2, 1, math.MinInt), nil, api.ErrArg},
		{"a byte's worth above 1", row(2, 1, 257), nil, api.ErrArg},
		{"16 at the end of the longest", row(most, most-1, 16), nil, api.ErrArg},
		{"not even, and wrong", row(3, 0, 16), nil, api.ErrLen},
		{"too long, and wrong", row(most+2, 0, -1), nil, api.ErrLen},
	} {
		got, e := bit.Join(c.l)
		if !bytes.Equal(got, c.want) || e != c.e {
			t.Errorf("%s: %d bytes, %d", c.name, len(got), e)
		}
	}
}

func TestApartAndTogether(t *testing.T) { // P1.4
	for _, n := range []int{0, 1, 2, 3, 255, 256, api.MaxBytes - 1, api.MaxBytes} {
		b := fill(n)
		l, _ := bit.Bits(b)
		packed, e := bit.Pack(l)
		if !bytes.Equal(packed, b) || e != api.OK {
			t.Errorf("%d bytes: Pack of their Bits: %d bytes, %d", n, len(packed), e)
		}
		l, _ = bit.Nibbles(b)
		joined, e := bit.Join(l)
		if !bytes.Equal(joined, b) || e != api.OK {
			t.Errorf("%d bytes: Join of their Nibbles: %d bytes, %d", n, len(joined), e)
		}
	}
}

func TestTogetherAndApart(t *testing.T) { // P1.4
	for n := range 256 { // each row of 8 bits, each of 2 nibbles
		l := bitsByHand([]byte{byte(n)})
		b, _ := bit.Pack(l)
		again, e := bit.Bits(b)
		if !slices.Equal(again, l) || e != api.OK {
			t.Error(l, again, e)
		}
		l = []int{n / 16, n % 16}
		b, _ = bit.Join(l)
		again, e = bit.Nibbles(b)
		if !slices.Equal(again, l) || e != api.OK {
			t.Error(l, again, e)
		}
	}
}
