package graphs

import (
	"math/rand"
	"slices"
	"testing"

	"countersign/api"
	"countersign/parsers"
)

func parsed(t *testing.T, text string) api.Schema {
	t.Helper()
	s, _, e := parsers.Parse(text)
	if e != api.OK {
		t.Fatal(text, e)
	}
	return s
}

func sample(t *testing.T) Graph {
	t.Helper()
	g, e := Of(parsed(t, "namespace user {} namespace a { relation p: [a]; relation v: [user, a#v] = (this | p->v) - w; relation w: [user]; }"))
	if e != api.OK {
		t.Fatal(e)
	}
	return g
}

func random(r *rand.Rand, n int) Graph {
	g := Graph{N: n}
	for i := range n * n * 2 {
		if r.Intn(n) == 0 {
			g.Edges = append(g.Edges, Edge{i / 2 / n, i / 2 % n, i%2 == 1})
		}
	}
	return g
}

func TestP16_1Check(t *testing.T) {
	for i, x := range []struct {
		g Graph
		e api.Errno
	}{
		{Graph{}, 0}, {Graph{N: 256}, 0}, {Graph{N: 257}, api.ErrLimit}, {Graph{N: -1}, api.ErrLimit}, {Graph{2, []Edge{{0, 1, false}, {0, 0, false}}}, api.ErrOrder}, {Graph{1, []Edge{{0, 1, false}}}, api.ErrRange}, {Graph{1, []Edge{{-1, 0, false}}}, api.ErrRange},
		{Graph{2, []Edge{{0, 1, false}, {0, 1, true}}}, 0}, {Graph{2, []Edge{{0, 1, true}, {0, 1, false}}}, api.ErrOrder}, {Graph{2, []Edge{{0, 1, true}, {0, 1, true}}}, api.ErrOrder}, {Graph{2, []Edge{{1, 1, true}, {0, 2, true}}}, api.ErrRange},
	} {
		if e := Check(x.g); e != x.e {
			t.Error(i, e)
		}
	}
}

func TestP16_2Of(t *testing.T) {
	if g := sample(t); g.N != 3 || !slices.Equal(g.Edges, []Edge{{1, 1, false}, {1, 2, true}}) || cap(g.Edges) != 2 {
		t.Error(g)
	}
	g, e := Of(parsed(t, "namespace c { relation v: [c]; } namespace a { relation v: [c, c#v, a#w] = this - (w | p->v); relation w = v | p->v; relation p: [c, a, c#v]; }"))
	if e != api.OK || g.N != 4 || !slices.Equal(g.Edges, []Edge{{1, 0, false}, {1, 0, true}, {1, 1, true}, {1, 2, false}, {1, 2, true}, {2, 0, false}, {2, 1, false}, {3, 0, false}}) {
		t.Error(g, e)
	}
	if g, _ := Of(parsed(t, "namespace c { relation v: [c]; } namespace a { relation p: [a, c#v]; relation v = p->v; }")); !slices.Equal(g.Edges, []Edge{{1, 0, false}, {2, 2, false}}) {
		t.Error(g)
	}
	if g, e := Of(parsed(t, "namespace a { relation b; }")); e != api.ErrType || g.N != 0 {
		t.Error(e)
	}
}

func TestP16_3OutIn(t *testing.T) {
	g := sample(t)
	turn, _ := Turned(g)
	if l, e := Out(turn, 2); e != api.OK || !slices.Equal(l, []Edge{{2, 1, true}}) {
		t.Error(l, e)
	}
	if l, e := Out(g, 1); e != api.OK || !slices.Equal(l, g.Edges) || cap(l) != 2 {
		t.Error(l, e)
	}
	if l, e := In(g, 1); e != api.OK || !slices.Equal(l, g.Edges[:1]) {
		t.Error(l, e)
	}
	for _, n := range []int{-1, 3} {
		_, e1 := Out(g, n)
		_, e2 := In(g, n)
		_, e3 := Reach(g, n)
		_, e4 := Path(g, 0, n)
		_, e5 := Path(g, n, 0)
		if e1 != api.ErrRange || e2 != api.ErrRange || e3 != api.ErrRange || e4 != api.ErrRange || e5 != api.ErrRange {
			t.Error(n)
		}
	}
	bad := Graph{N: 300}
	_, e1 := Out(bad, -1)
	_, e2 := In(bad, 0)
	_, e3 := Reach(bad, 0)
	_, e4 := Path(bad, 0, 0)
	if e1 != api.ErrLimit || e2 != api.ErrLimit || e3 != api.ErrLimit || e4 != api.ErrLimit {
		t.Error("a graph that is not right")
	}
}

func TestP16_4ReachPath(t *testing.T) {
	g := sample(t)
	for n, want := range [][]int{{0}, {1, 2}, {2}} {
		if l, e := Reach(g, n); e != api.OK || !slices.Equal(l, want) {
			t.Error(n, l, e)
		}
	}
	if l, e := Path(g, 1, 2); e != api.OK || !slices.Equal(l, []int{1, 2}) {
		t.Error(l, e)
	}
	if l, e := Path(g, 2, 1); e != api.ErrNone || len(l) != 0 {
		t.Error(l, e)
	}
	if l, _ := Path(g, 0, 0); !slices.Equal(l, []int{0}) {
		t.Error(l)
	}
	g = Graph{6, []Edge{{0, 2, false}, {0, 3, true}, {1, 5, false}, {2, 4, false}, {3, 1, false}, {3, 5, true}, {4, 5, false}}}
	if l, _ := Path(g, 0, 5); !slices.Equal(l, []int{0, 3, 5}) || cap(l) != 3 {
		t.Error(l)
	}
	g = Graph{5, []Edge{{0, 2, false}, {0, 3, false}, {2, 4, false}, {3, 1, false}, {3, 4, false}}}
	if l, _ := Path(g, 0, 4); !slices.Equal(l, []int{0, 2, 4}) {
		t.Error(l)
	}
}

func TestP16_5Turned(t *testing.T) {
	g, e := Turned(sample(t))
	if e != api.OK || g.N != 3 || !slices.Equal(g.Edges, []Edge{{1, 1, false}, {2, 1, true}}) {
		t.Error(g, e)
	}
	if g, e := Turned(Graph{N: -5}); e != api.ErrLimit || g.N != 0 {
		t.Error(e)
	}
}

func TestP16_6Consequences(t *testing.T) {
	r := rand.New(rand.NewSource(1))
	for range 300 {
		g := random(r, r.Intn(9)+1)
		turn, _ := Turned(g)
		if again, _ := Turned(turn); !slices.Equal(again.Edges, g.Edges) {
			t.Fatal("Turned")
		}
		for a := range g.N {
			in, _ := In(g, a)
			out, _ := Out(turn, a)
			if x, _ := Turned(Graph{g.N, out}); !slices.Equal(x.Edges, in) {
				t.Fatal("In")
			}
			reach, _ := Reach(g, a)
			for b := range g.N {
				p, e := Path(g, a, b)
				if (e == api.OK) != slices.Contains(reach, b) || len(p) > g.N {
					t.Fatal("Path")
				}
				seen := map[int]bool{}
				for _, n := range p {
					if seen[n] {
						t.Fatal("a node comes again")
					}
					seen[n] = true
				}
			}
		}
	}
}
