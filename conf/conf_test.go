package conf_test

import (
	"math"
	"testing"

	"volute/api"
	"volute/conf"
)

// plain is a right Config, each field of it somewhere between its edges.
func plain() api.Config {
	return api.Config{Bytes: 4, Beam: 5, Depth: 2, Window: 6, Qs: 7, Qr: 8, Batch: 9, Passes: 10, Msg: 30, Seqs: 1000}
}

// field is one of a Config's: where it stands, and its edges as the chapter and the limits have them, written out.
type field struct {
	name            string
	of              func(c *api.Config) *int
	least, greatest int
}

func fields() []field {
	return []field{
		{"Bytes", func(c *api.Config) *int { return &c.Bytes }, 1, 16},
		{"Beam", func(c *api.Config) *int { return &c.Beam }, 1, 16},
		{"Depth", func(c *api.Config) *int { return &c.Depth }, 1, 3},
		{"Window", func(c *api.Config) *int { return &c.Window }, 1, 16},
		{"Qs", func(c *api.Config) *int { return &c.Qs }, 1, 16},
		{"Qr", func(c *api.Config) *int { return &c.Qr }, 1, 16},
		{"Batch", func(c *api.Config) *int { return &c.Batch }, 1, 64},
		{"Passes", func(c *api.Config) *int { return &c.Passes }, 4, 16},
		{"Msg", func(c *api.Config) *int { return &c.Msg }, 0, 200},
		{"Seqs", func(c *api.Config) *int { return &c.Seqs }, 0, 1073741824},
	}
}

// right are numbers that the field may be: its edges, those beside them, its middle.
func (f field) right() []int {
	return []int{f.least, f.least + 1, (f.least + f.greatest) / 2, f.greatest - 1, f.greatest}
}

// wrong are numbers that it may not be: those beside its edges, the ends of the ints, and such as are right in their lowest bits, or without their sign.
func (f field) wrong() []int {
	return []int{
		f.least - 1, f.greatest + 1, math.MaxInt, math.MinInt, math.MaxInt - 1, math.MinInt + 1,
		f.least - 2, f.greatest + 2, -f.greatest, -f.greatest - 1, math.MinInt + f.greatest, math.MaxInt - f.greatest,
		1<<32 + f.least, 1<<32 + f.greatest, f.least - 1<<32, 1<<62 + f.greatest, f.greatest - 1<<62, 1<<31 + f.least, 1 << 31, 1 << 32,
	}
}

// with is plain with x in the field.
func (f field) with(x int) api.Config {
	c := plain()
	*f.of(&c) = x
	return c
}

// isRight is the chapter's text, field by field.
func isRight(c api.Config) bool {
	for _, f := range fields() {
		if x := *f.of(&c); x < f.least || x > f.greatest {
			return false
		}
	}
	return true
}

// wrongs are Configs that are not right: one field wrong, two, all but one, all.
func wrongs() []api.Config {
	list := []api.Config{{}}
	for i, f := range fields() {
		for _, x := range f.wrong() {
			c := f.with(x)
			list = append(list, c)
			for _, g := range fields()[i+1:] {
				for _, y := range g.wrong() {
					d := c
					*g.of(&d) = y
					list = append(list, d)
				}
			}
		}
	}
	for k := range fields()[0].wrong() {
		var all api.Config
		for _, f := range fields() {
			*f.of(&all) = f.wrong()[k]
		}
		list = append(list, all)
		for _, f := range fields() {
			c := all
			*f.of(&c) = *f.of(new(plain()))
			list = append(list, c)
		}
	}
	return list
}

// rights are right Configs: plain, each field at each number that may be, two at their edges, all at one edge.
func rights() []api.Config {
	list := []api.Config{plain()}
	for i, f := range fields() {
		for _, x := range f.right() {
			c := f.with(x)
			list = append(list, c)
			for _, g := range fields()[i+1:] {
				for _, y := range g.right() {
					d := c
					*g.of(&d) = y
					list = append(list, d)
				}
			}
		}
	}
	for k := range fields()[0].right() {
		var c api.Config
		for _, f := range fields() {
			*f.of(&c) = f.right()[k]
		}
		list = append(list, c)
	}
	return list
}

// grid goes over every right Bytes, Passes and Batch, with the other fields at least or greatest by turns.
func grid(yield func(api.Config) bool) {
	low, high := api.Config{}, api.Config{}
	for _, f := range fields() {
		*f.of(&low), *f.of(&high) = f.least, f.greatest
	}
	for bytes := 1; bytes <= 16; bytes++ {
		for passes := 4; passes <= 16; passes++ {
			for batch := 1; batch <= 64; batch++ {
				for _, c := range []api.Config{low, plain(), high} {
					c.Bytes, c.Passes, c.Batch = bytes, passes, batch
					if !yield(c) {
						return
					}
				}
			}
		}
	}
}

// numbers are for lengths and blocks: those that the chapter names, those beside them, the ends of the ints, and such as are right in their lowest bits alone.
func numbers() []int {
	list := []int{math.MinInt, math.MinInt + 1, math.MinInt + 200, -1 << 62, -1 << 32, 7 - 1<<32, -2001, -2000, -201, -200, -17, -16, -5, -4, -2, -1}
	for n := range 2010 {
		list = append(list, n)
	}
	return append(list, 4096, 1<<30, 1<<30+1, 1<<31-1, 1<<31, 1<<32, 1<<32+5, 1<<62, 1<<62+7, math.MaxInt-2000, math.MaxInt-16, math.MaxInt-1, math.MaxInt)
}

// roundUp counts how often size must be taken to come to n.
func roundUp(n, size int) int {
	count := 0
	for n > 0 {
		n -= size
		count++
	}
	return count
}

func TestExample(t *testing.T) { // example 1
	c := plain()
	c.Bytes = 4
	if got := conf.Segs(c); got != 28 {
		t.Error(got)
	}
}

func TestSameAgain(t *testing.T) { // R3: an answer hangs neither on what was asked ahead of it nor on how often; nothing is kept
	told := func(c api.Config, n int) [6]int {
		return [6]int{int(conf.Check(c)), conf.Segs(c), conf.Most(c), conf.Blocks(c, n), conf.Ticks(c), conf.Cycles(c, n)}
	}
	list := append(rights(), wrongs()...)
	ahead := make([][6]int, len(list))
	for i, c := range list {
		ahead[i] = told(c, i%250-20)
	}
	for i := len(list) - 1; i >= 0; i-- {
		if got := told(list[i], i%250-20); got != ahead[i] {
			t.Errorf("%v: %v, ahead of it %v", list[i], got, ahead[i])
		}
	}
}
