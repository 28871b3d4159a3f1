package comps

import (
	"fmt"
	"math/rand"
	"slices"
	"testing"

	"countersign/api"
	"countersign/graphs"
)

// equal reports whether two values are equal; lists that are nil and empty are.
func equal(a, b any) bool { return fmt.Sprint(a) == fmt.Sprint(b) }

// graph returns a graph with some edges (from, to, and 1 if it is negative).
func graph(n int, l ...[3]int) graphs.Graph {
	g := graphs.Graph{N: n}
	for _, x := range l {
		g.Edges = append(g.Edges, graphs.Edge{From: x[0], To: x[1], Negative: x[2] == 1})
	}
	return g
}

func sample() graphs.Graph {
	return graph(5, [3]int{0, 1, 0}, [3]int{1, 0, 1}, [3]int{1, 2, 0}, [3]int{3, 4, 0}, [3]int{4, 4, 0})
}

func random(r *rand.Rand, n int) graphs.Graph {
	g := graphs.Graph{N: n}
	for from := range n {
		for to := range n {
			for _, negative := range []bool{false, true} {
				if r.Intn(2*n) == 0 {
					g.Edges = append(g.Edges, graphs.Edge{From: from, To: to, Negative: negative})
				}
			}
		}
	}
	return g
}

func TestP17_1Of(t *testing.T) {
	c, e := Of(sample())
	if e != api.OK || !equal(c, Comps{[][]int{{2}, {0, 1}, {4}, {3}}, []int{1, 1, 0, 3, 2}}) {
		t.Error(c, e)
	}
	if cap(c.List) != 4 || cap(c.In) != 5 {
		t.Error("spare capacity")
	}
	for _, l := range c.List {
		if cap(l) != len(l) {
			t.Error("spare capacity")
		}
	}
	if c, e := Of(graph(0)); e != api.OK || len(c.List) != 0 || len(c.In) != 0 {
		t.Error(c, e)
	}
	if c, e := Of(graph(1, [3]int{0, 1, 0})); e != api.ErrRange || len(c.List) != 0 || len(c.In) != 0 {
		t.Error(e)
	}
	long := graphs.Graph{N: 256}
	for i := range 256 {
		long.Edges = append(long.Edges, graphs.Edge{From: i, To: (i + 1) % 256})
	}
	if c, _ := Of(long); len(c.List) != 1 || len(c.List[0]) != 256 {
		t.Error("a long way round")
	}
}

func TestP17_2Condense(t *testing.T) {
	if g, e := Condense(sample()); e != api.OK || g.N != 4 || !slices.Equal(g.Edges, graph(4, [3]int{1, 0, 0}, [3]int{3, 2, 0}).Edges) {
		t.Error(g, e)
	}
	g, _ := Condense(graph(3, [3]int{0, 1, 0}, [3]int{0, 2, 1}, [3]int{1, 0, 0}, [3]int{1, 2, 0}))
	if g.N != 2 || !slices.Equal(g.Edges, graph(2, [3]int{1, 0, 0}, [3]int{1, 0, 1}).Edges) || cap(g.Edges) != 2 {
		t.Error(g)
	}
	if _, e := Condense(graph(-1)); e != api.ErrLimit {
		t.Error(e)
	}
}

func TestP17_3SimpleMixed(t *testing.T) {
	for comp, want := range []bool{true, false, false, true} {
		if simple, e := Simple(sample(), comp); simple != want || e != api.OK {
			t.Error(comp, simple, e)
		}
	}
	for _, comp := range []int{-1, 4} {
		if simple, e := Simple(sample(), comp); simple || e != api.ErrRange {
			t.Error(comp, e)
		}
	}
	if l, e := Mixed(sample()); e != api.OK || !slices.Equal(l, []int{1}) {
		t.Error(l, e)
	}
	if l, _ := Mixed(graph(3, [3]int{0, 0, 1}, [3]int{1, 2, 1}, [3]int{2, 2, 0}, [3]int{2, 2, 1})); !slices.Equal(l, []int{0, 1}) {
		t.Error(l)
	}
	if l, _ := Mixed(graph(2, [3]int{0, 0, 1}, [3]int{0, 1, 0}, [3]int{1, 1, 1})); !slices.Equal(l, []int{0, 1}) || cap(l) != 2 {
		t.Error(l)
	}
	_, e1 := Simple(graph(300), 9)
	_, e2 := Mixed(graph(300))
	if e1 != api.ErrLimit || e2 != api.ErrLimit {
		t.Error("a graph that is not right")
	}
}

func TestP17_4Order(t *testing.T) {
	if l, e := Order(sample()); e != api.OK || !slices.Equal(l, []int{2, 0, 1, 4, 3}) || cap(l) != 5 {
		t.Error(l, e)
	}
	if l, e := Order(graph(300)); e != api.ErrLimit || len(l) != 0 {
		t.Error(e)
	}
}

func TestP17_5Consequences(t *testing.T) {
	r := rand.New(rand.NewSource(1))
	for range 400 {
		g := random(r, r.Intn(10)+1)
		c, _ := Of(g)
		all, _ := Order(g)
		if sorted := slices.Sorted(slices.Values(all)); len(sorted) != g.N || sorted[0] != 0 || len(slices.Compact(sorted)) != g.N {
			t.Fatal("each node is in one component")
		}
		for _, e := range g.Edges {
			if c.In[e.To] > c.In[e.From] {
				t.Fatal("an edge leads to a greater number")
			}
		}
		for a := range g.N {
			reach, _ := graphs.Reach(g, a)
			for b := range g.N {
				back, _ := graphs.Reach(g, b)
				if (c.In[a] == c.In[b]) != (slices.Contains(reach, b) && slices.Contains(back, a)) {
					t.Fatal("components")
				}
			}
		}
		x, _ := Condense(g)
		y, _ := Condense(x)
		if order, _ := Order(x); !slices.IsSorted(order) || !equal(x, y) {
			t.Fatal("condensed again")
		}
		for i := range x.N {
			if simple, _ := Simple(x, i); !simple {
				t.Fatal("simple components")
			}
		}
	}
}
