package runs

import (
	"slices"
	"testing"
)

// P8.3: who goes through parts may leave early, and go through them again.
func TestPartsUpToABreak(t *testing.T) {
	each := parts([]int{1, 2, 3, 4, 5}, 2)
	for range 2 {
		var got []int
		for part := range each {
			got = append(got, part...)
			if len(got) == 4 {
				break
			}
		}
		if !slices.Equal(got, []int{1, 2, 3, 4}) {
			t.Errorf("up to the break there is %v", got)
		}
	}
}
