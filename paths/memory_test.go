package paths_test

import (
	"slices"
	"testing"
	"unsafe"

	"turnpike/paths"
	"turnpike/spare"
)

// loose: a text in memory that the test may change.
func loose(s string) (string, []byte) {
	b := []byte(s)
	return unsafe.String(unsafe.SliceData(b), len(b)), b
}

// P13.10: a list, the texts in it and the room behind it are as they were; what they become later does not matter.
func TestListsAreNotChanged(t *testing.T) {
	var texts []string
	var bytes [][]byte
	for _, s := range []string{"*", "*.A", "*.B.A", "X.b.a", "a_b"} {
		text, b := loose(s)
		texts, bytes = append(texts, text), append(bytes, b)
	}
	list, whole := spare.List(texts, "x.b.a")
	was := slices.Clone(whole)
	if i, is := paths.Best(list, "x.b.a"); i != 3 || !is {
		t.Errorf("%d, %v", i, is)
	}
	if i, is := paths.Best(list[:3], "x.b.a"); i != 2 || !is {
		t.Errorf("%d, %v: the room behind the list counts", i, is)
	}
	if !slices.Equal(whole, was) || string(slices.Concat(bytes...)) != "**.A*.B.AX.b.aa_b" {
		t.Errorf("%q", whole)
	}
	for _, b := range bytes {
		spare.Fill(b, '!')
	}
	spare.Fill(list, "_")
	if i, is := paths.Best([]string{"*", "*.b.a"}, "x.b.a"); i != 1 || !is {
		t.Errorf("%d, %v: an earlier list counts", i, is)
	}
	if i, is := paths.Best(list, "x.b.a"); i != 0 || is {
		t.Errorf("%d, %v: an earlier list counts", i, is)
	}
}

// P13.1, P13.10: a folded host is new memory, be there letters to fold or not.
func TestFoldedIsNew(t *testing.T) {
	for s, want := range map[string]string{"Shop.Example": "shop.example", "shop": "shop", "-": "-"} {
		host, b := loose(s)
		folded, is := paths.Fold(host)
		if string(b) != s {
			t.Errorf("Fold changed %q", s)
		}
		spare.Fill(b, '!')
		if folded != want || !is {
			t.Errorf("Fold(%q): %q, %v", s, folded, is)
		}
	}
}
