package rules

import (
	"fmt"
	"math/rand"
	"strings"
	"testing"

	"countersign/api"
)

// equal reports whether two values are equal; lists that are nil and empty are.
func equal(a, b any) bool { return fmt.Sprint(a) == fmt.Sprint(b) }

func this() api.Rule                   { return api.Rule{Kind: api.This} }
func computed(rel string) api.Rule     { return api.Rule{Kind: api.Computed, Rel: rel} }
func arrow(rel, to string) api.Rule    { return api.Rule{Kind: api.Arrow, Rel: rel, To: to} }
func union(l ...api.Rule) api.Rule     { return api.Rule{Kind: api.Union, Args: l} }
func intersect(l ...api.Rule) api.Rule { return api.Rule{Kind: api.Intersect, Args: l} }
func exclude(l ...api.Rule) api.Rule   { return api.Rule{Kind: api.Exclude, Args: l} }
func sample() api.Rule                 { return exclude(union(this(), computed("a")), arrow("p", "x")) }
func ofText(t *testing.T, r api.Rule) string {
	t.Helper()
	s, e := Text(r)
	if e != api.OK {
		t.Fatal(e)
	}
	return s
}

// deep returns a rule with some levels.
func deep(n int) api.Rule {
	r := this()
	for range n - 1 {
		r = exclude(r, this())
	}
	return r
}

// wide returns a Union with some nodes.
func wide(n int) api.Rule {
	return union(make([]api.Rule, n-1)...)
}

func random(r *rand.Rand, depth int) api.Rule {
	switch k := r.Intn(6); {
	case depth <= 1 || k < 3:
		return []api.Rule{this(), computed("a"), arrow("p", "x")}[r.Intn(3)]
	default:
		x, y, z := random(r, depth-1), random(r, depth-1), random(r, depth-1)
		switch {
		case k == 3 && r.Intn(2) == 0:
			return union(x, y, z)
		case k == 3:
			return union(x, y)
		case k == 4:
			return intersect(x, y)
		}
		return exclude(x, y)
	}
}

func TestP13_1Check(t *testing.T) {
	loop := make([]api.Rule, 2)
	loop[0], loop[1] = union(loop...), union(loop...)
	many := union()
	for range 31 {
		many.Args = append(many.Args, this())
	}
	for i, x := range []struct {
		r api.Rule
		e api.Errno
	}{
		{sample(), 0}, {api.Rule{}, api.ErrKind}, {computed("this"), api.ErrName}, {union(this()), api.ErrForm}, {computed(""), api.ErrName}, {arrow("a", "B"), api.ErrName}, {arrow("", "b"), api.ErrName},
		{api.Rule{Kind: 7}, api.ErrKind}, {api.Rule{Kind: api.This, Rel: "a"}, api.ErrForm}, {api.Rule{Kind: api.This, To: "a"}, api.ErrForm}, {api.Rule{Kind: api.This, Args: []api.Rule{{}}}, api.ErrForm},
		{api.Rule{Kind: api.Computed, Rel: "A", To: "a"}, api.ErrForm}, {api.Rule{Kind: api.Union, Rel: "a", Args: []api.Rule{this(), this()}}, api.ErrForm}, {exclude(this(), this(), this()), api.ErrForm}, {exclude(this()), api.ErrForm}, {api.Rule{Kind: api.Exclude, To: "a", Args: []api.Rule{this(), this()}}, api.ErrForm}, {api.Rule{Kind: api.Exclude, Rel: "a", Args: []api.Rule{this(), this()}}, api.ErrForm}, {api.Rule{Kind: api.Intersect, To: "a", Args: []api.Rule{this(), this()}}, api.ErrForm}, {api.Rule{Kind: api.Arrow, Rel: "a", To: "b", Args: []api.Rule{this()}}, api.ErrForm},
		{union(computed("B"), api.Rule{}), api.ErrName}, {union(exclude(this(), api.Rule{}), computed("B")), api.ErrKind}, {deep(8), 0}, {deep(9), api.ErrLimit}, {many, 0}, {union(append(many.Args, this())...), api.ErrLimit}, {wide(33), api.ErrLimit}, {wide(32), api.ErrKind}, {loop[0], api.ErrLimit},
	} {
		if e := Check(x.r); e != x.e {
			t.Error(i, e)
		}
	}
}

func TestP13_2Nodes(t *testing.T) {
	l, e := Nodes(sample())
	want := []Node{{Kind: 6, Args: []int{1, 4}}, {Kind: 4, Args: []int{2, 3}}, {Kind: 1}, {Kind: 2, Rel: "a"}, {Kind: 3, Rel: "p", To: "x", Negative: true}}
	if e != api.OK || !equal(l, want) || cap(l) != len(l) {
		t.Error(l, e)
	}
	if l, _ := Nodes(exclude(this(), exclude(this(), this()))); l[1].Negative || !l[2].Negative || !l[3].Negative || !l[4].Negative {
		t.Error(l)
	}
	if Count(sample()) != 5 || Depth(sample()) != 3 || Leaves(sample()) != 3 {
		t.Error("counts")
	}
	if l, e := Nodes(union()); len(l) != 0 || e != api.ErrForm || Count(union()) != 0 || Depth(union()) != 0 || Leaves(union()) != 0 || Count(deep(9)) != 0 {
		t.Error("a rule that is not right")
	}
}

func TestP13_3SameCopy(t *testing.T) {
	r := sample()
	c := Copy(r)
	if !Same(r, c) || !equal(r, c) {
		t.Error("Copy")
	}
	c.Args[0].Args[0] = computed("b")
	if Same(r, c) || !Same(r, sample()) {
		t.Error("shared")
	}
	bad := union(this())
	if Same(bad, bad) || !equal(Copy(bad), api.Rule{}) || Same(r, bad) || !Same(this(), api.Rule{Kind: api.This, Args: []api.Rule{}}) {
		t.Error("a rule that is not right")
	}
	if Same(union(this(), union(this(), this(), this())), union(this(), union(this(), this()), this())) || Same(arrow("a", "b"), arrow("b", "a")) {
		t.Error("other rules")
	}
}

func TestP13_4Text(t *testing.T) {
	a, b, c := computed("a"), computed("b"), computed("c")
	for want, r := range map[string]api.Rule{
		"(this | a) - p->x": sample(), "this": this(), "a | (b | c)": union(a, union(b, c)), "a | b & c": union(a, intersect(b, c)), "(a | b) & c": intersect(union(a, b), c), "a & (b & c)": intersect(a, intersect(b, c)),
		"a - b & c": intersect(exclude(a, b), c), "a - (b & c)": exclude(a, intersect(b, c)), "(a - b) - c": exclude(exclude(a, b), c), "a - b | c": union(exclude(a, b), c), "a | b | c": union(a, b, c), "(a | b) - (c | a)": exclude(union(a, b), union(c, a)),
	} {
		if s := ofText(t, r); s != want {
			t.Error(s, want)
		}
	}
	if s, e := Text(api.Rule{}); s != "" || e != api.ErrKind {
		t.Error(e)
	}
}

func TestP13_5Eval(t *testing.T) {
	r := sample()
	for i, x := range []struct {
		l    []bool
		want bool
		e    api.Errno
	}{{[]bool{false, true, false}, true, 0}, {[]bool{true, true, true}, false, 0}, {nil, false, api.ErrRange}, {[]bool{true, true, true, true}, false, api.ErrRange}, {[]bool{false, false, false}, false, 0}} {
		if v, e := Eval(r, x.l); v != x.want || e != x.e {
			t.Error(i, v, e)
		}
	}
	if v, e := Eval(api.Rule{}, nil); v || e != api.ErrKind {
		t.Error(e)
	}
	if v, _ := Eval(intersect(union(this(), this()), this()), []bool{true, false, true}); !v {
		t.Error("leaves that do not matter are passed over")
	}
	if v, _ := Eval(intersect(this(), this(), this()), []bool{true, true, false}); v {
		t.Error("Intersect")
	}
}

func TestP13_6Flat(t *testing.T) {
	a, b, c := computed("a"), computed("b"), computed("c")
	for want, r := range map[string]api.Rule{
		"this | a | b": union(union(this(), a), b), "a | b | c": union(a, union(b, c)), "a & b & c": intersect(a, intersect(b, c)), "(a - b) - c": exclude(exclude(a, b), c), "a | b | c | a": union(union(union(a, b), c), a), "a | b & c": union(a, intersect(b, c)), "(a | b | c) - a": exclude(union(union(a, b), c), a),
	} {
		f, e := Flat(r)
		if s := ofText(t, f); s != want || e != api.OK {
			t.Error(s, want)
		}
	}
	if f, e := Flat(union(a)); e != api.ErrForm || f.Kind != 0 {
		t.Error(e)
	}
}

func TestP13_7Consequences(t *testing.T) {
	x := rand.New(rand.NewSource(1))
	seen := map[string]api.Rule{}
	open := strings.NewReplacer("(", "", ")", "")
	for range 3000 {
		r := random(x, 4)
		if Check(r) != api.OK {
			continue
		}
		text := ofText(t, r)
		if before, found := seen[text]; found && !Same(before, r) {
			t.Fatal(text)
		}
		seen[text] = r
		f, _ := Flat(r)
		again, _ := Flat(f)
		if !Same(f, again) || open.Replace(ofText(t, f)) != open.Replace(text) || Leaves(f) != Leaves(r) {
			t.Fatal(text)
		}
		l, _ := Nodes(r)
		var negative []bool
		for _, n := range l {
			if n.Kind <= api.Arrow {
				negative = append(negative, n.Negative)
			}
		}
		values := make([]bool, Leaves(r))
		for i := range values {
			values[i] = x.Intn(2) == 0
		}
		v, _ := Eval(r, values)
		if w, _ := Eval(f, values); v != w {
			t.Fatal(text)
		}
		for i := range values {
			if !values[i] && !negative[i] {
				values[i] = true
				if w, _ := Eval(r, values); v && !w {
					t.Fatal(text)
				}
				values[i] = false
			}
		}
	}
}
