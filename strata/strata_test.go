package strata

import (
	"math/rand"
	"slices"
	"testing"

	"countersign/api"
	"countersign/comps"
	"countersign/graphs"
	"countersign/parsers"
)

func parsed(t *testing.T, text string) api.Schema {
	t.Helper()
	s, _, e := parsers.Parse(text)
	if e != api.OK {
		t.Fatal(text, e)
	}
	return s
}

// graph returns a graph with some edges (from, to, and 1 if it is negative).
func graph(n int, l ...[3]int) graphs.Graph {
	g := graphs.Graph{N: n}
	for _, x := range l {
		g.Edges = append(g.Edges, graphs.Edge{From: x[0], To: x[1], Negative: x[2] == 1})
	}
	return g
}

func TestP18_1NumbersWitness(t *testing.T) {
	g := graph(4, [3]int{0, 1, 1}, [3]int{1, 2, 0}, [3]int{2, 1, 0}, [3]int{2, 3, 1})
	if l, e := Numbers(g); e != api.OK || !slices.Equal(l, []int{2, 1, 1, 0}) || cap(l) != 4 {
		t.Error(l, e)
	}
	if l, e := Witness(g); e != api.ErrNone || len(l) != 0 {
		t.Error(l, e)
	}
	g.Edges = append(g.Edges, graphs.Edge{From: 3, To: 1})
	if l, e := Numbers(g); e != api.ErrStrata || len(l) != 0 {
		t.Error(l, e)
	}
	if l, e := Witness(g); e != api.OK || !slices.Equal(l, []int{2, 3, 1}) || cap(l) != 3 {
		t.Error(l, e)
	}
	if l, e := Witness(graph(1, [3]int{0, 0, 1})); e != api.OK || !slices.Equal(l, []int{0}) {
		t.Error(l, e)
	}
	if l, _ := Numbers(graph(3, [3]int{0, 1, 0}, [3]int{0, 1, 1}, [3]int{0, 2, 0}, [3]int{2, 1, 1})); !slices.Equal(l, []int{1, 0, 1}) {
		t.Error(l)
	}
	_, e1 := Numbers(graph(300))
	_, e2 := Witness(graph(1, [3]int{0, 2, 1}))
	if e1 != api.ErrLimit || e2 != api.ErrRange {
		t.Error(e1, e2)
	}
}

func TestP18_2CheckOf(t *testing.T) {
	for text, want := range map[string]api.Errno{
		"namespace a { relation b: [a] = this - b; }": api.ErrStrata, "namespace a { relation b; }": api.ErrType, "": 0, "namespace a { relation b: [a]; relation c = b - d; relation d = b; }": 0,
		"namespace a { relation b = c - d; relation c: [a]; relation d = b; }": api.ErrStrata, "namespace a { relation b: [a#b]; }": 0, "namespace a { relation b: [a] = this - c; relation c: [a] = this - b; }": api.ErrStrata,
	} {
		s := parsed(t, text)
		z, e := Of(s)
		if e != want || Check(s) != want || e != api.OK && z.Many() != 0 {
			t.Error(text, e)
		}
	}
}

func TestP18_3AtManyIn(t *testing.T) {
	z, _ := Of(parsed(t, "namespace a { relation b: [a]; relation c = b - d; relation d = b; }"))
	if n, e := z.At("a", "c"); n != 1 || e != api.OK || z.Many() != 2 {
		t.Error(n, e, z.Many())
	}
	if l, e := z.In(0); e != api.OK || !slices.Equal(l, []int{0, 2}) || cap(l) != 2 {
		t.Error(l, e)
	}
	for _, n := range []int{-1, 2} {
		if l, e := z.In(n); e != api.ErrRange || len(l) != 0 {
			t.Error(n, e)
		}
	}
	if n, e := z.At("a", "x"); e != api.ErrName || n != 0 {
		t.Error(e)
	}
	var none Strata
	_, e1 := none.At("a", "b")
	_, e2 := none.In(0)
	if e1 != api.ErrName || e2 != api.ErrRange || none.Many() != 0 {
		t.Error("the zero strata")
	}
}

func TestP18_4Consequences(t *testing.T) {
	r := rand.New(rand.NewSource(1))
	for range 500 {
		g := graphs.Graph{N: r.Intn(8) + 1}
		some := r.Intn(4) > 0
		for from := range g.N {
			for to := range g.N {
				if r.Intn(g.N+1) == 0 {
					g.Edges = append(g.Edges, graphs.Edge{From: from, To: to, Negative: some && r.Intn(3) == 0})
				}
			}
		}
		l, e := Numbers(g)
		w, f := Witness(g)
		if (e == api.OK) == (f == api.OK) {
			t.Fatal("either strata or a witness")
		}
		if e != api.OK {
			next := append(w[1:len(w):len(w)], w[0])
			negative := false
			for i := range w {
				negative = negative || slices.Contains(g.Edges, graphs.Edge{From: w[i], To: next[i], Negative: true})
				if !slices.ContainsFunc(g.Edges, func(x graphs.Edge) bool { return x.From == w[i] && x.To == next[i] }) {
					t.Fatal("no way round")
				}
			}
			if !negative {
				t.Fatal("no negative edge")
			}
			continue
		}
		c, _ := comps.Of(g)
		for n, comp := range c.In {
			if l[n] != l[c.List[comp][0]] || !some && l[n] != 0 {
				t.Fatal("a component")
			}
		}
		for n := range slices.Max(l) {
			if !slices.Contains(l, n) {
				t.Fatal("a stratum without relations")
			}
		}
	}
}
