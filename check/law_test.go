package check_test

import (
	"math/rand"
	"testing"

	"turnpike/api"
	"turnpike/check"
)

// P14.5: there and back, of configurations that are near one another or far.
func TestThereAndBack(t *testing.T) {
	r := rand.New(rand.NewSource(4))
	for range 6000 {
		from, to := orderly(r, 20), orderly(r, 20)
		if r.Intn(2) == 0 {
			to = near(r, from)
		}
		for _, x := range [][2][]api.Resource{{from, to}, {to, from}, {from, nil}, {nil, from}} {
			docs := check.Diff(x[0], x[1])
			got, at, err := check.Merge(x[0], docs)
			if !isList(got, x[1]) || at != 0 || err != api.OK || !check.Ordered(got) {
				t.Fatalf("%v and %v by %v: %v, %d, %d", x[0], x[1], docs, got, at, err)
			}
			if again := check.Diff(got, x[1]); len(again) != 0 {
				t.Fatalf("%v: %v", got, again)
			}
		}
		if docs := check.Diff(from, from); len(docs) != 0 {
			t.Fatalf("%v: %v", from, docs)
		}
	}
}

// near: the same configuration with a resource or two that are changed, new or gone.
func near(r *rand.Rand, l []api.Resource) []api.Resource {
	docs := orderly(r, 3)
	for i, d := range docs {
		if find(l, d.Kind, d.Name) >= 0 && r.Intn(2) == 0 {
			docs[i] = gone(d.Kind, d.Name)
		}
	}
	got, _, _ := modelMerge(l, docs)
	return got
}

// P14.5: all of 64 resources for 64 others.
func TestThereAndBackAtTheLimit(t *testing.T) {
	all := many(128)
	for _, x := range [][2][]api.Resource{{all[:64], all[64:]}, {all[64:], all[:64]}, {all[:64], all[32:96]}, {all[:64], nil}, {nil, all[64:]}} {
		got, at, err := check.Merge(x[0], check.Diff(x[0], x[1]))
		if !isList(got, x[1]) || at != 0 || err != api.OK {
			t.Errorf("%v, %d, %d", got, at, err)
		}
	}
}

// P14.5, P14.1: what Merge makes is in order, and has each document that deletes none.
func TestMergedIsInOrder(t *testing.T) {
	r := rand.New(rand.NewSource(5))
	merges := 0
	for range 30000 {
		conf, docs := orderly(r, 15), anyList(r, 4)
		got, _, err := check.Merge(conf, docs)
		if !check.Ordered(got) {
			t.Fatalf("Merge(%v, %v): %v", conf, docs, got)
		}
		if err != api.OK {
			continue
		}
		merges++
		for _, d := range docs {
			if at := find(got, d.Kind, d.Name); d.Delete != (at < 0) || at >= 0 && !modelSame(got[at], d) {
				t.Fatalf("Merge(%v, %v): %v", conf, docs, got)
			}
		}
	}
	if merges < 1000 {
		t.Errorf("%d merges", merges)
	}
}

// P0.1: each call ends quickly, however long the lists are.
func TestLongLists(t *testing.T) {
	var long []api.Resource
	for i := range 200000 {
		long = append(long, service(string([]byte{byte(i >> 16), byte(i >> 8), byte(i)})))
	}
	if !check.Ordered(long) {
		t.Error("Ordered")
	}
	if _, fault := check.Check(long); fault != (api.Fault{Err: api.ErrCount}) {
		t.Error(fault)
	}
	if _, at, err := check.Merge(nil, append(long, long[7])); at != 200000 || err != api.ErrTwice {
		t.Error(at, err)
	}
	if _, at, err := check.Merge(long, long); at != 0 || err != api.ErrCount {
		t.Error(at, err)
	}
	var away []api.Resource
	for _, r := range long[60:] {
		away = append(away, gone(r.Kind, r.Name))
	}
	if got, _, err := check.Merge(long, away); !isList(got, long[:60]) || err != api.OK {
		t.Error(len(got), err)
	}
	if got := check.Diff(long, long[:60]); !isList(got, away) {
		t.Error(len(got))
	}
}
