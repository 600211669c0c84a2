package spare_test

import (
	"slices"
	"testing"

	"turnpike/spare"
)

func TestList(t *testing.T) {
	p := []int{1, 2}
	list, all := spare.List(p, 7)
	if !slices.Equal(list, p) || cap(list) <= len(list) || len(all) != cap(list) || all[2] != 7 || all[len(all)-1] != 7 {
		t.Errorf("%v, %v", list, all)
	}
	list[0] = 9
	if p[0] != 1 || all[0] != 9 {
		t.Errorf("%v, %v", p, all)
	}
}

func TestFill(t *testing.T) {
	list, all := spare.List([]int{1, 2}, 7)
	spare.Fill(list, 8)
	if slices.ContainsFunc(all, func(x int) bool { return x != 8 }) {
		t.Errorf("%v", all)
	}
	spare.Fill[int](nil, 1)
}
