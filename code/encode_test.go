package code_test

import (
	"bytes"
	"encoding/hex"
	"math"
	"slices"
	"testing"

	"volute/api"
	"volute/bit"
	"volute/code"
	"volute/sched"
	"volute/spine"
	"volute/symbol"
)

// most is how many bytes a block may have.
const most = api.MaxSegs / 2

// text is a block of n bytes, another one for each seed.
func text(n, seed int) []byte {
	b := make([]byte, n)
	for i := range b {
		b[i] = byte(i*(151+2*seed) + seed*seed*29 + i*i>>1)
	}
	return b
}

// length is how many symbols the row of b has.
func length(b []byte) int { return 2 * len(b) * api.MaxPasses }

func encode(t *testing.T, b []byte, from, count int) []byte {
	t.Helper()
	row, e := code.Encode(b, from, count)
	if e != api.OK || len(row) != count {
		t.Fatalf("Encode(%x, %d, %d): %d symbols, %d", b, from, count, len(row), e)
	}
	return row
}

func row(t *testing.T, b []byte) []byte {
	t.Helper()
	return encode(t, b, 0, length(b))
}

func wantError(t *testing.T, b []byte, from, count int, want api.Errno) {
	t.Helper()
	if row, e := code.Encode(b, from, count); len(row) != 0 || e != want {
		t.Errorf("Encode(of %d bytes, %d, %d) = %x, %d, not %d", len(b), from, count, row, e, want)
	}
}

func TestRowsKnown(t *testing.T) { // P8.1: worked out apart from this project
	for text, want := range map[string]string{
		"00": "52f1e580fc6f01aeb28331faa0aec96088994a0870ce9701305d318253cb159a",
		"a5": "a3fcac295bf8fe3e71fdfdc0b1d4ddbe2492ab217d4b3582ff5720d6a0dc754b",
		"5a": "36798bf88b020f35cc5b453525302d22c637f0b56a66aae772c8c92ae4844a11",
		"ff": "48299e634fe659bb8bb8e38b12525f922d5f21b630b1a86c307643339095a630",
	} {
		b, err := hex.DecodeString(text)
		if err != nil {
			t.Fatal(err)
		}
		if got := hex.EncodeToString(row(t, b)); got != want {
			t.Errorf("%s: %s, not %s", text, got, want)
		}
	}
}

func TestPartsKnown(t *testing.T) { // P8.1: worked out apart from this project
	counted := make([]byte, most)
	for i := range counted {
		counted[i] = byte(i)
	}
	seven := []byte("abcdefg")
	for _, c := range []struct {
		b    []byte
		from int
		want string
	}{
		{seven, 0, "39be71e5e6bc90b1ac5ef4951f73cba444e5fb989fd6ca3f60cee697"},
		{seven, 56, "11caa4cac75e97dbe4d079f87b0e"},
		{seven, 210, "374703eb803d3defa31ce080fbe3"},
		{counted, 0, "5218c821daa5eac04433986848f63fca541f1d3ffe825566dbe52f92d2bc8c4a"},
		{counted, 32, "f183a4aae922a5a2e0ee945fccab0b47bbc4e26a457ca43efca456906ad7b043"},
		{counted, 992, "9ad44dece3b7926e5d244dfa1630386ddd549e81e813f33144087b7b17f91414"},
		{make([]byte, most), 960, "1583d502d31cf9e42dccb50e904788e10ab9f55af451c923198cb85a1223dc8c"},
		{bytes.Repeat([]byte{255}, most), 992, "301494d83f47cbad16f0044d1600e9f204b4acb9e912143ec8b2034bc853924c"},
	} {
		if got := hex.EncodeToString(encode(t, c.b, c.from, len(c.want)/2)); got != c.want {
			t.Errorf("%x from %d on: %s, not %s", c.b, c.from, got, c.want)
		}
	}
}

// statesOf are the states behind b's segments, by layers 1 and 5.
func statesOf(t *testing.T, b []byte) []uint32 {
	t.Helper()
	nibbles, e := bit.Nibbles(b)
	states, f := spine.States(nibbles)
	if e != api.OK || f != api.OK || len(states) != code.Segs(len(b)) {
		t.Fatal(b, states, e, f)
	}
	return states
}

func TestEachSymbolByPlace(t *testing.T) { // P8.1: at each place the symbol that layers 5 to 7 tell of it, for each length that may be
	for n := 1; n <= most; n++ {
		for seed := range 5 {
			b := text(n, seed)
			states := statesOf(t, b)
			for k, got := range row(t, b) {
				segment, index, e := sched.At(2*n, k)
				want, f := symbol.Of(states[segment], index)
				if int(got) != want || e != api.OK || f != api.OK {
					t.Errorf("%x at %d: %d, not %d", b, k, got, want)
				}
			}
		}
	}
}

func TestEachSymbolAlone(t *testing.T) { // P8.1: each symbol of each segment, asked for alone at its own place
	for _, n := range []int{1, 2, 3, 4, 5, 9, most - 1, most} {
		b := text(n, n)
		for segment, state := range statesOf(t, b) {
			for index := range api.MaxPasses {
				k, e := sched.Place(2*n, segment, index)
				want, f := symbol.Of(state, index)
				if got := encode(t, b, k, 1); int(got[0]) != want || e != api.OK || f != api.OK {
					t.Errorf("%x, %d of the segment %d: %d, not %d", b, index, segment, got, want)
				}
			}
		}
	}
}

func TestFourPassesTellTheBlock(t *testing.T) { // P8.1: the first four symbols of each segment are its state, and two states tell the nibble between them
	for n := 1; n <= most; n++ {
		b := text(n, 3*n)
		four := encode(t, b, 0, 4*2*n)
		s := spine.Begin()
		var nibbles []int
		for segment := range 2 * n {
			var symbols []int
			for index := range 4 {
				k, _ := sched.Place(2*n, segment, index)
				symbols = append(symbols, int(four[k]))
			}
			next, _ := symbol.State(symbols)
			nibble, is := spine.Nibble(s, next)
			if !is {
				t.Fatalf("%x: no nibble leads from %x to %x", b, s, next)
			}
			nibbles = append(nibbles, nibble)
			s = next
		}
		if got, e := bit.Join(nibbles); !slices.Equal(got, b) || e != api.OK {
			t.Errorf("%x is told as %x, %d", b, got, e)
		}
	}
}

func TestEachPart(t *testing.T) { // P8.2: each part of the shortest rows
	for n := 1; n <= 2; n++ {
		b := text(n, 7)
		all := row(t, b)
		for from := range len(all) + 1 {
			for count := range len(all) - from + 1 {
				if got := encode(t, b, from, count); !slices.Equal(got, all[from:from+count]) {
					t.Errorf("%x: %d from %d on are %x", b, count, from, got)
				}
			}
		}
	}
}

func TestPartsAreTheRow(t *testing.T) { // P8.2: parts of as many symbols each, one behind the other
	for n := 1; n <= most; n++ {
		b := text(n, 2*n)
		all := row(t, b)
		for _, step := range []int{1, 3, n, 2*n - 1, 2 * n, 2*n + 1, 64, len(all) - 1, len(all)} {
			var got []byte
			for from := 0; from < len(all); from += step {
				got = append(got, encode(t, b, from, min(step, len(all)-from))...)
			}
			if !slices.Equal(got, all) {
				t.Errorf("%x: parts of %d are %x", b, step, got)
			}
		}
	}
}

func TestNothing(t *testing.T) { // P8.1, example 1: no symbols, from any place of the row on and from its end
	for n := 1; n <= most; n++ {
		b := text(n, 1)
		for from := range length(b) + 1 {
			encode(t, b, from, 0)
		}
	}
}

func TestEndOfRow(t *testing.T) { // P8.1: up to the last symbol, and not one more, from any place on
	for n := 1; n <= most; n++ {
		b := text(n, 4)
		end := length(b)
		all := row(t, b)
		for _, from := range []int{0, 1, 2, n, 2 * n, end / 2, end - 2, end - 1, end} {
			if got := encode(t, b, from, end-from); !slices.Equal(got, all[from:]) {
				t.Errorf("%x from %d on: %x", b, from, got)
			}
			wantError(t, b, from, end-from+1, api.ErrArg)
			wantError(t, b, end-from+1, from, api.ErrArg)
		}
	}
}

// noNumber are numbers that are no places and no counts of any row, some of them one in their lowest bits.
var noNumber = []int{
	-1, -2, -64, -1024, 1025, 2048, 1 << 31, 1 << 32, 1<<32 + 1, -1 << 32, 1 << 62, 1<<62 + 1, -1 << 62, -1<<62 + 1,
	math.MaxInt, math.MaxInt - 1, math.MaxInt - 31, math.MinInt, math.MinInt + 1, math.MinInt + 32,
}

func TestWrongParts(t *testing.T) { // P8.1, R1, R5: each of the two wrong alone, and both, sums that wrap to one that may be among them
	for n := 1; n <= most; n++ {
		b := text(n, 6)
		end := length(b)
		for _, wrong := range slices.Concat(noNumber, []int{end + 1, end + 2, end + 2*n, 2*end + 1}) {
			for _, other := range slices.Concat(noNumber, []int{0, 1, 2 * n, end - 1, end, end + 1}) {
				wantError(t, b, wrong, other, api.ErrArg)
				wantError(t, b, other, wrong, api.ErrArg)
			}
			wantError(t, b, wrong, -wrong, api.ErrArg)
			wantError(t, b, wrong, end-wrong, api.ErrArg)
			wantError(t, b, end-wrong, wrong, api.ErrArg)
		}
	}
}

func TestWrongBlocks(t *testing.T) { // P8.1, R1
	for _, n := range []int{0, most + 1, most + 2, 2 * most, 256, 257, api.MaxBytes, api.MaxBytes + 1, 1 << 16} {
		for _, count := range []int{0, 1, 32} {
			wantError(t, make([]byte, n), 0, count, api.ErrLen)
		}
	}
	wantError(t, nil, 0, 0, api.ErrLen)
	encode(t, make([]byte, 1), 0, 32)
	encode(t, make([]byte, most), 0, 1024)
}

func TestErrorsInOrder(t *testing.T) { // R4: the block ahead of the part
	for _, b := range [][]byte{nil, {}, make([]byte, most+1)} {
		for _, from := range noNumber {
			for _, count := range noNumber {
				wantError(t, b, from, count, api.ErrLen)
			}
			wantError(t, b, from, 0, api.ErrLen)
			wantError(t, b, 0, from, api.ErrLen)
		}
	}
}

func TestRowsAgain(t *testing.T) { // R3: an answer hangs neither on what was asked ahead of it nor on how often
	ahead := map[int][]byte{}
	for n := 1; n <= most; n++ {
		ahead[n] = row(t, text(n, 8))
	}
	for n := most; n >= 1; n-- {
		wantError(t, text(n, 8), -1, 1, api.ErrArg)
		wantError(t, nil, 0, 1, api.ErrLen)
		for range 2 {
			if got := row(t, text(n, 8)); !slices.Equal(got, ahead[n]) {
				t.Errorf("%d bytes: another answer than ahead of it", n)
			}
		}
	}
}
