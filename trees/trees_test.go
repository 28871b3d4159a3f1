package trees

import (
	"cmp"
	"math/rand"
	"slices"
	"sort"
	"testing"

	"countersign/api"
)

func sample() Map[int, string] {
	return New[int, string](cmp.Compare[int]).Put(3, "b").Put(1, "a").Put(5, "c")
}

func keys[V any](l []Pair[int, V]) []int {
	out := []int{}
	for _, p := range l {
		out = append(out, p.Key)
	}
	return out
}

// balanced reports whether a tree with a depth may have so few nodes.
func balanced(depth, n int) bool {
	least, next := 0, 1
	for range depth {
		least, next = next, least+next+1
	}
	return least <= n
}

func TestP5_1NewPutDrop(t *testing.T) {
	m := sample()
	x := m.Put(3, "x")
	if v, found := x.Get(3); v != "x" || !found || x.Len() != 3 {
		t.Error("Put of a key that is there")
	}
	if v, _ := m.Get(3); v != "b" {
		t.Error("Put has changed a map")
	}
	if m.Drop(3).Len() != 2 || m.Drop(2).Len() != 3 || m.Len() != 3 || New[int, int](cmp.Compare[int]).Len() != 0 {
		t.Error("Drop")
	}
	if _, found := m.Drop(3).Get(3); found {
		t.Error("still there")
	}
	// Keys that are equal by the order, but differ: the first one stays.
	ten := New[int, int](func(a, b int) int { return a/10 - b/10 }).Put(12, 1).Put(15, 2)
	if p, _ := ten.At(0); p.Key != 12 || p.Value != 2 || ten.Len() != 1 {
		t.Error(p)
	}
	for _, none := range []Map[int, int]{{}, New[int, int](nil)} {
		none = none.Put(1, 1).Drop(1)
		if _, found := none.Get(1); none.Len() != 0 || found || none.Rank(4) != 0 || len(none.All()) != 0 || none.Depth() != 0 || len(none.Between(1, 9)) != 0 {
			t.Error("a map without an order")
		}
		if _, e := none.At(0); e != api.ErrRange {
			t.Error(e)
		}
	}
}

func TestP5_2LenGetAtRank(t *testing.T) {
	m := sample()
	if v, found := m.Get(2); v != "" || found {
		t.Error("Get")
	}
	if m.Rank(2) != 1 || m.Rank(9) != 3 || m.Rank(1) != 0 || m.Rank(0) != 0 || m.Rank(5) != 2 {
		t.Error("Rank")
	}
	if p, e := m.At(2); p.Key != 5 || p.Value != "c" || e != api.OK {
		t.Error("At")
	}
	for _, i := range []int{-1, 3, 1 << 40} {
		if p, e := m.At(i); e != api.ErrRange || p.Key != 0 {
			t.Error(i)
		}
	}
}

func TestP5_3RangeBetweenAll(t *testing.T) {
	m := sample()
	for _, x := range []struct {
		got  []Pair[int, string]
		want []int
	}{
		{m.Range(1, 9), []int{3, 5}}, {m.Between(2, 5), []int{3}}, {m.Range(-5, 2), []int{1, 3}}, {m.Range(2, 1), nil}, {m.Range(2, 2), nil}, {m.Range(-1, -1), nil},
		{m.Between(5, 1), nil}, {m.Between(1, 6), []int{1, 3, 5}}, {m.All(), []int{1, 3, 5}}, {m.Range(9, 12), nil}, {m.Range(0, 1), []int{1}},
	} {
		if !slices.Equal(keys(x.got), x.want) || cap(x.got) != len(x.got) {
			t.Error(x)
		}
	}
}

func TestP5_4Depth(t *testing.T) {
	m := sample()
	if m.Depth() != 2 || m.Put(0, "").Depth() != 3 {
		t.Error(m.Depth())
	}
	for n := range 4096 {
		m = m.Put(n, "")
	}
	if m.Depth() > 16 {
		t.Error(m.Depth())
	}
}

func TestP5_5Consequences(t *testing.T) {
	r := rand.New(rand.NewSource(1))
	m, want := New[int, int](cmp.Compare[int]), map[int]int{}
	var olds []Map[int, int]
	var lens []int
	for range 3000 {
		k, v := r.Intn(300), r.Int()
		if r.Intn(2) == 0 {
			m, want[k] = m.Put(k, v), v
		} else {
			m = m.Drop(k)
			delete(want, k)
		}
		olds, lens = append(olds, m), append(lens, len(want))
		if !balanced(m.Depth(), m.Len()) {
			t.Fatal("not balanced")
		}
	}
	for i, old := range olds {
		if len(old.All()) != lens[i] {
			t.Fatal("a map has changed")
		}
	}
	all := keys(m.All())
	if !sort.IntsAreSorted(all) || len(all) != len(want) {
		t.Error("order")
	}
	for k, v := range want {
		if x, found := m.Get(k); x != v || !found {
			t.Error(k)
		}
		if p, e := m.At(m.Rank(k)); e != api.OK || p.Key != k || p.Value != v {
			t.Error("At of Rank", k)
		}
	}
	a, b := New[int, int](cmp.Compare[int]), New[int, int](cmp.Compare[int])
	for i := range 100 {
		a, b = a.Put(i, i), b.Put(99-i, 99-i)
	}
	if !slices.Equal(a.All(), b.All()) {
		t.Error("the order of puts matters")
	}
	// An order that is none: all calls return.
	odd := New[int, int](func(a, b int) int { return r.Intn(3) - 1 })
	for i := range 500 {
		odd = odd.Put(i, i).Drop(r.Intn(500))
		odd.Get(i)
		odd.Between(r.Intn(9), i)
	}
}
