package orders

import (
	"cmp"
	"testing"
)

func TestAscending(t *testing.T) {
	for i, x := range []struct {
		l    []int
		want bool
	}{{nil, true}, {[]int{5}, true}, {[]int{1, 2, 5}, true}, {[]int{1, 1}, false}, {[]int{1, 3, 2}, false}} {
		if Ascending(x.l, cmp.Compare[int]) != x.want {
			t.Error(i)
		}
	}
}
