package sets

import (
	"math/rand"
	"slices"
	"strconv"
	"testing"

	"countersign/api"
	"countersign/filters"
	"countersign/tuples"
)

func list(t *testing.T, texts ...string) []api.Tuple {
	t.Helper()
	var l []api.Tuple
	for _, s := range texts {
		x, e := tuples.Parse(s)
		if e != api.OK {
			t.Fatal(s, e)
		}
		l = append(l, x)
	}
	return l
}

func set(t *testing.T, texts ...string) Set {
	t.Helper()
	s, e := Of(list(t, texts...))
	if e != api.OK {
		t.Fatal(e)
	}
	return s
}

func sample(t *testing.T) Set {
	return set(t, "doc:a#viewer@user:x", "doc:a#viewer@group:g#member", "doc:b#viewer@user:x")
}

func many(n int) []api.Tuple {
	l := make([]api.Tuple, n)
	for i := range l {
		l[i] = api.Tuple{Goal: api.Goal{Object: api.Object{Space: "a", ID: strconv.Itoa(i)}, Rel: "r"}, Subject: api.Subject{Object: api.Object{Space: "u", ID: "x"}}}
	}
	return l
}

func TestP6_1Of(t *testing.T) {
	l := list(t, "b:x#r@u:a", "a:x#r@u:a", "b:x#r@u:a")
	s, e := Of(l)
	if e != api.OK || s.Len() != 2 {
		t.Error(s.Len(), e)
	}
	if s, e := Of(nil); e != api.OK || s.Len() != 0 {
		t.Error(e)
	}
	all := many(4097)
	if s, e := Of(append(all[:4096:4096], all[:5]...)); e != api.OK || s.Len() != 4096 {
		t.Error(e)
	}
	if s, e := Of(all); e != api.ErrLimit || s.Len() != 0 {
		t.Error(e)
	}
	if _, e := Of(append(all[:4096:4096], api.Tuple{}, all[4096])); e != api.ErrName {
		t.Error(e)
	}
	if _, e := Of(append(all, api.Tuple{})); e != api.ErrLimit {
		t.Error(e)
	}
}

func TestP6_2With(t *testing.T) {
	s := sample(t)
	b := list(t, "doc:b#viewer@user:x")[0]
	out, e := s.With(api.Change{Tuple: b, Drop: true})
	if e != api.OK || out.Len() != 2 || len(out.Goals()) != 1 || s.Len() != 3 {
		t.Error(out.Len(), e)
	}
	for _, c := range []api.Change{{Tuple: b}, {Tuple: list(t, "doc:c#v@u:a")[0], Drop: true}} {
		if out, e := s.With(c); e != api.OK || !Same(out, s) {
			t.Error("no difference", e)
		}
	}
	for _, c := range []api.Change{{}, {Drop: true}} {
		if out, e := s.With(c); e != api.ErrName || out.Len() != 0 {
			t.Error(e)
		}
	}
	all := many(4097)
	full, _ := Of(all[:4096])
	if out, e := full.With(api.Change{Tuple: all[4096]}); e != api.ErrLimit || out.Len() != 0 {
		t.Error(e)
	}
	if _, e := full.With(api.Change{Tuple: all[0]}); e != api.OK {
		t.Error(e)
	}
	if _, e := full.With(api.Change{}); e != api.ErrName {
		t.Error(e)
	}
}

func TestP6_3LenHasList(t *testing.T) {
	s := sample(t)
	want := list(t, "doc:a#viewer@group:g#member", "doc:a#viewer@user:x", "doc:b#viewer@user:x")
	l := s.List()
	if s.Len() != 3 || !slices.Equal(l, want) || cap(l) != 3 {
		t.Error(l)
	}
	l[0] = api.Tuple{}
	if !slices.Equal(s.List(), want) {
		t.Error("shared")
	}
	if !s.Has(want[1]) || s.Has(api.Tuple{}) || s.Has(list(t, "doc:a#viewer@user:y")[0]) || (Set{}).Has(want[0]) || len(Set{}.List()) != 0 {
		t.Error("Has")
	}
}

func TestP6_4GoalSubjectMatchGoals(t *testing.T) {
	s := sample(t)
	g := api.Goal{Object: api.Object{Space: "doc", ID: "a"}, Rel: "viewer"}
	u := api.Subject{Object: api.Object{Space: "user", ID: "x"}}
	if len(s.Goal(g)) != 2 || len(s.Subject(u)) != 2 || len(s.Match(api.Filter{Space: "doc"})) != 3 || len(s.Match(api.Filter{Space: "A"})) != 0 || len(s.Match(api.Filter{Subject: u})) != 0 {
		t.Error("how many")
	}
	if len(s.Goal(api.Goal{})) != 0 || len(s.Subject(api.Subject{})) != 0 || len(s.Goals()) != 2 || s.Goals()[0] != g {
		t.Error("none")
	}
	all := set(t, "a:x#r@u:a", "a:x#r@u:b", "a:x#r0@u:a", "a:x#r@u:a#r", "a:x0#r@u:a", "a0:x#r@u:a", "b:x#r@u:a", "a:y#s@u:b")
	for _, space := range []string{"", "a", "a0", "c"} {
		for _, id := range []string{"", "x", "x0"} {
			for _, rel := range []string{"", "r", "s"} {
				for _, exact := range []bool{false, true} {
					f := api.Filter{Space: space, ID: id, Rel: rel, Exact: exact}
					if exact {
						f.Subject = api.Subject{Object: api.Object{Space: "u", ID: "a"}}
					}
					want, _ := filters.Select(all.List(), f)
					got := all.Match(f)
					if !slices.Equal(got, want) || cap(got) != len(got) {
						t.Error(f, got)
					}
				}
			}
		}
	}
}

func TestP6_5Same(t *testing.T) {
	s := sample(t)
	b := list(t, "doc:b#viewer@user:x")[0]
	less, _ := s.With(api.Change{Tuple: b, Drop: true})
	again, _ := less.With(api.Change{Tuple: b})
	other, _ := less.With(api.Change{Tuple: list(t, "doc:b#viewer@user:y")[0]})
	if !Same(s, s) || Same(s, less) || !Same(s, again) || Same(s, other) || !Same(Set{}, Set{}) || Same(Set{}, s) {
		t.Error("Same")
	}
}

func TestP6_6Consequences(t *testing.T) {
	all := many(30)
	r := rand.New(rand.NewSource(1))
	var s Set
	for range 500 {
		old := s.List()
		c := api.Change{Tuple: all[r.Intn(30)], Drop: r.Intn(2) == 0}
		out, _ := s.With(c)
		if !slices.Equal(s.List(), old) {
			t.Fatal("a set has changed")
		}
		if back, _ := out.With(api.Change{Tuple: c.Tuple, Drop: !c.Drop}); out.Len() != s.Len() && !Same(back, s) {
			t.Fatal("the opposite change")
		}
		d := api.Change{Tuple: all[r.Intn(30)], Drop: r.Intn(2) == 0}
		if d.Tuple != c.Tuple {
			x, _ := out.With(d)
			y, _ := s.With(d)
			y, _ = y.With(c)
			if !Same(x, y) {
				t.Fatal("the order of changes")
			}
		}
		g := c.Tuple.Goal
		if !slices.Equal(out.Goal(g), out.Match(api.Filter{Space: g.Object.Space, ID: g.Object.ID, Rel: g.Rel})) || !slices.Equal(out.Subject(c.Tuple.Subject), out.Match(api.Filter{Subject: c.Tuple.Subject, Exact: true})) {
			t.Fatal("Match")
		}
		s = out
	}
}
