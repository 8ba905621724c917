package bit

import (
	"slices"
	"testing"
)

// A loop that is left early must not be told more: Go panics if it is.
func TestWalksEndEarly(t *testing.T) {
	var told []int
	for piece := range pieces([]byte{0xa5, 0x3c}, nibbleWidth) {
		told = append(told, piece)
		if len(told) == 1 {
			break
		}
	}
	if !slices.Equal(told, []int{10}) {
		t.Error(told)
	}
	var bytes []byte
	for whole := range wholes([]int{10, 5, 3, 12}, nibbleWidth) {
		bytes = append(bytes, whole)
		break
	}
	if !slices.Equal(bytes, []byte{0xa5}) {
		t.Error(bytes)
	}
}

func TestWalksAnew(t *testing.T) {
	walk := pieces([]byte{0xa5}, bitWidth)
	if first, again := slices.Collect(walk), slices.Collect(walk); !slices.Equal(first, again) || len(first) != 8 {
		t.Error(first, again)
	}
}
