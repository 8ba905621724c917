package rules

import (
	"math"
	"testing"

	"volute/api"
	"volute/sched"
)

func TestSched(t *testing.T) {
	for _, n := range []int{math.MinInt, -1, 0, 1, 2, 5, 7, 8, 9, 63, api.MaxSegs, api.MaxSegs + 1, math.MaxInt} {
		order := func([][]byte) ([][]int, api.Errno) {
			l, e := sched.Order(n)
			return [][]int{l}, e
		}
		checkLists(t, "Order", order)
	}
}
