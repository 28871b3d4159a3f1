package tables

import (
	"fmt"
	"math/rand"
	"slices"
	"testing"

	"countersign/api"
	"countersign/parsers"
	"countersign/rules"
	"countersign/schemas"
)

// equal reports whether two values are equal; lists that are nil and empty are.
func equal(a, b any) bool { return fmt.Sprint(a) == fmt.Sprint(b) }

const sample = "namespace user {} namespace doc { relation p: [doc, user]; relation v: [user] = (this | (v | p->v)) - w; relation w: [user]; }"

func parsed(t *testing.T, text string) api.Schema {
	t.Helper()
	s, _, e := parsers.Parse(text)
	if e != api.OK {
		t.Fatal(text, e)
	}
	return s
}

func tables(t *testing.T) *Tables {
	t.Helper()
	x, e := Of(parsed(t, sample))
	if e != api.OK {
		t.Fatal(e)
	}
	return x
}

func view(t *testing.T) Table {
	t.Helper()
	x, e := tables(t).Find("doc", "v")
	if e != api.OK {
		t.Fatal(e)
	}
	return x
}

// set returns objects, one for each letter.
func set(s string) (out []api.Object) {
	for _, x := range s {
		out = append(out, api.Object{Space: "u", ID: string(x)})
	}
	return out
}

func TestP19_1OfManyStrata(t *testing.T) {
	x := tables(t)
	if x.Many() != 3 || x.Strata() != 2 {
		t.Error(x.Many(), x.Strata())
	}
	for text, want := range map[string]api.Errno{"namespace a { relation b: [a] = this - b; }": api.ErrStrata, "namespace a { relation b; }": api.ErrType, "": 0} {
		if x, e := Of(parsed(t, text)); e != want || (x == nil) != (e != api.OK) || x.Many() != 0 || x.Strata() != 0 {
			t.Error(text, e)
		}
	}
}

func TestP19_2HasFindAt(t *testing.T) {
	x := tables(t)
	v, _ := x.Find("doc", "v")
	want := Table{"doc", "v", 1, 1, []api.Type{{Space: "user"}}, []Node{
		{Kind: 6, Args: []int{1, 5}, Leaf: -1}, {Kind: 4, Args: []int{2, 3, 4}, Leaf: -1}, {Kind: 1}, {Kind: 2, Rel: "v", Leaf: 1}, {Kind: 3, Rel: "p", To: "v", Spaces: []string{"doc"}, Leaf: 2}, {Kind: 2, Rel: "w", Leaf: 3}}}
	if !equal(v, want) {
		t.Error(v)
	}
	v.Nodes[4].Spaces[0], v.Nodes[0].Args[0], v.Types[0].Space = "x", 9, "x"
	if at, e := x.At(1); e != api.OK || !equal(at, want) {
		t.Error("shared")
	}
	if !x.Has("doc", "w") || x.Has("doc", "x") || x.Has("user", "v") {
		t.Error("Has")
	}
	if _, e := x.Find("doc", "x"); e != api.ErrName {
		t.Error(e)
	}
	for _, n := range []int{-1, 3} {
		if _, e := x.At(n); e != api.ErrRange {
			t.Error(e)
		}
	}
	for _, none := range []*Tables{nil, {}} {
		_, e1 := none.Find("doc", "v")
		_, e2 := none.At(0)
		if e1 != api.ErrNil || e2 != api.ErrNil || none.Has("doc", "v") || none.Many() != 0 || none.Strata() != 0 {
			t.Error("no tables")
		}
	}
}

func TestP19_3CheckRule(t *testing.T) {
	if Check(nil) != api.ErrForm || Check(view(t).Nodes) != api.OK {
		t.Error("Check")
	}
	changes := []func(l []Node){
		func(l []Node) { l[0].Kind = 5 }, func(l []Node) { l[0].Kind = 4 }, func(l []Node) { l[0].Kind = 7 }, func(l []Node) { l[0].Kind = 0 }, func(l []Node) { l[0].Leaf = 0 }, func(l []Node) { l[0].Rel = "a" }, func(l []Node) { l[0].Args[1] = 4 }, func(l []Node) { l[0].Args = l[0].Args[:1] },
		func(l []Node) { l[1].Kind = 6 }, func(l []Node) { l[1].Spaces = []string{"a"} }, func(l []Node) { l[2].Leaf = 1 }, func(l []Node) { l[2].Rel = "a" }, func(l []Node) { l[2].To = "a" }, func(l []Node) { l[2].Args = []int{3} }, func(l []Node) { l[3].Rel = "this" }, func(l []Node) { l[3].To = "a" }, func(l []Node) { l[3].Spaces = []string{"a"} },
		func(l []Node) { l[4].Spaces = nil }, func(l []Node) { l[4].Spaces = []string{"a", "a"} }, func(l []Node) { l[4].Spaces = []string{"A"} }, func(l []Node) { l[4].To = "" }, func(l []Node) { l[4].Rel = "" }, func(l []Node) { l[5].Leaf = -1 }, func(l []Node) { l[1].Args[0], l[1].Args[1] = 3, 2 }, func(l []Node) { l[0].Args[0] = 0 }, func(l []Node) { l[0].Args[0] = -1 },
	}
	for i, change := range changes {
		l := view(t).Nodes
		if change(l); (Check(l) == api.OK) != (i == 0) {
			t.Error(i)
		}
		if i == 0 {
			continue
		}
		_, e1 := Rule(l)
		_, e2 := Eval(l, nil)
		_, e3 := Sets(l, nil)
		if e1 != api.ErrForm || e2 != api.ErrForm || e3 != api.ErrForm {
			t.Error(i, e1, e2, e3)
		}
	}
	if Check(append(view(t).Nodes, Node{Kind: 1, Leaf: 4})) != api.ErrForm || Check(view(t).Nodes[:5]) != api.ErrForm {
		t.Error("too many or too few")
	}
	this := func(leaf int) Node { return Node{Kind: api.This, Leaf: leaf} }
	for levels, want := range map[int]api.Errno{8: api.OK, 9: api.ErrForm} {
		var deep []Node
		for i := range levels - 1 { // each inner node has the next one, and then a leaf
			deep = append(deep, Node{Kind: uint8(4 + i%2), Args: []int{i + 1, 2*levels - 2 - i}, Leaf: -1})
		}
		for i := range levels {
			deep = append(deep, this(i))
		}
		if e := Check(deep); e != want {
			t.Error(levels, e)
		}
	}
	for n, want := range map[int]api.Errno{31: api.OK, 32: api.ErrForm} {
		wide := []Node{{Kind: api.Union, Leaf: -1}}
		for i := range n {
			wide[0].Args = append(wide[0].Args, i+1)
			wide = append(wide, this(i))
		}
		if e := Check(wide); e != want {
			t.Error(n, e)
		}
		if wide[0].Kind = api.Exclude; Check(wide) != api.ErrForm {
			t.Error("too many arguments")
		}
	}
	for i, l := range [][]Node{{{Kind: api.Union, Args: []int{1}, Leaf: -1}, this(0)}, {{Kind: api.Exclude, Args: []int{1, 2, 3}, Leaf: -1}, this(0), this(1), this(2)}, {{Kind: api.Exclude, Args: []int{1, 2}, Leaf: -1}, {Kind: api.Exclude, Args: []int{2, 3}, Leaf: -1}, this(0), this(1), this(2)}} {
		if Check(l) != api.ErrForm {
			t.Error(i)
		}
	}
	if r, e := Rule(view(t).Nodes); e != api.OK || len(r.Args) != 2 || len(r.Args[0].Args) != 3 {
		t.Error(r, e)
	}
}

func TestP19_4EvalSets(t *testing.T) {
	l := view(t).Nodes
	if v, e := Eval(l, []bool{false, false, true, false}); !v || e != api.OK {
		t.Error(v, e)
	}
	if v, e := Eval(l, []bool{true, true, true, true}); v || e != api.OK {
		t.Error(v, e)
	}
	if v, e := Eval(l, make([]bool, 3)); v || e != api.ErrRange {
		t.Error(v, e)
	}
	values := [][]api.Object{set("a"), nil, set("bc"), set("b")}
	got, e := Sets(l, values)
	if e != api.OK || !slices.Equal(got, set("ac")) || cap(got) != 2 {
		t.Error(got, e)
	}
	if _, e := Sets(l, values[:3]); e != api.ErrRange {
		t.Error(e)
	}
	for _, bad := range [][]api.Object{set("ba"), set("aa"), {{Space: "b"}, {Space: "a"}}} {
		if got, e := Sets(l, [][]api.Object{nil, nil, nil, bad}); e != api.ErrOrder || len(got) != 0 {
			t.Error(e)
		}
	}
	both := []Node{{Kind: api.Intersect, Args: []int{1, 2}, Leaf: -1}, {Kind: api.This}, {Kind: api.Computed, Rel: "a", Leaf: 1}}
	for _, a := range []bool{false, true} {
		for _, b := range []bool{false, true} {
			if v, e := Eval(both, []bool{a, b}); v != (a && b) || e != api.OK {
				t.Error(a, b, v)
			}
		}
	}
	if l, _ := Sets(both, [][]api.Object{set("abd"), set("bcd")}); !slices.Equal(l, set("bd")) {
		t.Error(l)
	}
	one := []Node{{Kind: api.This}}
	a := set("ab")
	got, _ = Sets(one, [][]api.Object{a})
	if got[0].ID = "x"; a[0].ID != "a" {
		t.Error("shared")
	}
}

func TestP19_5Consequences(t *testing.T) {
	s := parsed(t, sample)
	x := tables(t)
	r := rand.New(rand.NewSource(1))
	for n := range x.Many() {
		table, _ := x.At(n)
		own, _ := schemas.Relation(s, table.Space, table.Rel)
		flat, _ := rules.Flat(own.Rule)
		rule, _ := Rule(table.Nodes)
		if !rules.Same(rule, flat) {
			t.Error(table.Rel)
		}
		for range 100 {
			leaves := make([][]api.Object, rules.Leaves(rule))
			for i := range leaves {
				for _, o := range set("abcd") {
					if r.Intn(2) == 0 {
						leaves[i] = append(leaves[i], o)
					}
				}
			}
			got, _ := Sets(table.Nodes, leaves)
			for _, o := range set("abcde") {
				values := make([]bool, len(leaves))
				for i := range values {
					values[i] = slices.Contains(leaves[i], o)
				}
				a, _ := Eval(table.Nodes, values)
				b, _ := rules.Eval(own.Rule, values)
				if a != slices.Contains(got, o) || a != b || a && !slices.Contains(values, true) {
					t.Fatal("values")
				}
			}
		}
	}
}
