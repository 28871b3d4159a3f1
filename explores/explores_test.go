package explores

import (
	"math/rand"
	"slices"
	"strings"
	"testing"

	"countersign/api"
	"countersign/goals"
	"countersign/names"
	"countersign/parsers"
	"countersign/reaches"
	"countersign/refs"
	"countersign/sets"
	"countersign/tuples"
)

const sample = "namespace doc { relation parent: [folder]; relation owner: [user]; relation viewer: [user, group#member] = (this | owner | parent->viewer) - banned; relation banned: [user]; } namespace folder { relation viewer: [user]; } namespace group { relation member: [user, group#member]; } namespace user {}"

const facts = "doc:x#parent@folder:f doc:x#owner@user:a doc:x#viewer@group:g#member doc:x#viewer@user:b"

// world returns the world of the schema and some tuples.
func world(t *testing.T, facts string) refs.World {
	t.Helper()
	var l []api.Tuple
	for _, s := range strings.Fields(facts) {
		x, e := tuples.Parse(s)
		if e != api.OK {
			t.Fatal(s, e)
		}
		l = append(l, x)
	}
	set, _ := sets.Of(l)
	s, _, _ := parsers.Parse(sample)
	w, e := refs.New(s, set)
	if e != api.OK {
		t.Fatal(e)
	}
	return w
}

// random returns tuples that fit.
func random(r *rand.Rand, n int) string {
	all := []string{"doc:A#parent@folder:B", "doc:A#owner@user:B", "doc:A#viewer@user:B", "doc:A#viewer@group:B#member", "doc:A#banned@user:B", "folder:A#viewer@user:B", "group:A#member@user:B", "group:A#member@group:B#member"}
	var out []string
	for range n {
		out = append(out, strings.NewReplacer("A", string(rune('a'+r.Intn(3))), "B", string(rune('a'+r.Intn(3)))).Replace(all[r.Intn(len(all))]))
	}
	return strings.Join(out, " ")
}

func goal(t *testing.T, s string) api.Goal {
	t.Helper()
	g, e := names.ParseGoal(s)
	if e != api.OK {
		t.Fatal(s, e)
	}
	return g
}

func texts(l []api.Goal) string {
	var out []string
	for _, g := range l {
		out = append(out, names.GoalText(g))
	}
	return strings.Join(out, " ")
}

func table(t *testing.T, l ...string) goals.Table {
	t.Helper()
	var x goals.Table
	for _, s := range l {
		x, _, _, _ = x.With(goal(t, s))
	}
	return x
}

func same(a, b State) bool {
	return goals.GoesOn(a.Table, b.Table) && goals.GoesOn(b.Table, a.Table) && a.At == b.At && a.Ref == b.Ref && a.Steps == b.Steps
}

func TestP25_1NewCheckDone(t *testing.T) {
	w, g := world(t, facts), goal(t, "doc:x#viewer")
	s, e := New(w, g)
	if e != api.OK || !same(s, State{Table: table(t, "doc:x#viewer")}) || Check(w, s) != api.OK || Done(s) {
		t.Error(s, e)
	}
	_, e1 := New(w, goal(t, "doc:x#none"))
	_, e2 := New(refs.World{}, g)
	if e1 != api.ErrName || e2 != api.ErrNil || Check(refs.World{}, State{}) != api.ErrNil || Check(w, State{}) != api.ErrState || Done(State{}) {
		t.Error(e1, e2)
	}
	x := table(t, "doc:x#viewer", "doc:x#owner")
	for i, c := range []struct {
		s State
		e api.Errno
	}{
		{State{x, 0, 4, 0}, 0}, {State{x, 0, 5, 0}, api.ErrState}, {State{x, 0, -1, 0}, api.ErrState}, {State{x, -1, 0, 0}, api.ErrState}, {State{x, 1, 0, 5}, 0}, {State{x, 1, 1, 5}, api.ErrState}, {State{x, 2, 0, 5}, 0}, {State{x, 2, 1, 5}, api.ErrState}, {State{x, 3, 0, 5}, api.ErrState},
		{State{x, 0, 0, -1}, api.ErrState}, {State{x, 0, 0, 1 << 62}, 0}, {State{x, 0, 0, 1<<62 + 1}, api.ErrState}, {State{table(t, "doc:x#viewer", "doc:x#none"), 0, 0, 0}, api.ErrState},
	} {
		if e := Check(w, c.s); e != c.e {
			t.Error(i, e)
		}
	}
	if !Done(State{x, 2, 0, 5}) || Done(State{x, 1, 0, 5}) {
		t.Error("Done")
	}
}

func TestP25_2Step(t *testing.T) {
	w := world(t, facts)
	s, _ := New(w, goal(t, "doc:x#viewer"))
	s, n, e := Step(w, s, 2)
	if e != api.OK || n != 2 || texts(s.Table.From(0)) != "doc:x#viewer group:g#member doc:x#owner" || s.At != 0 || s.Ref != 2 {
		t.Error(s.At, s.Ref, n, e)
	}
	s, n, e = Step(w, s, 3)
	if e != api.OK || n != 3 || s.Table.Len() != 5 || s.At != 1 || s.Ref != 0 || s.Steps != 5 {
		t.Error(s.At, s.Ref, n, e)
	}
	s, n, e = Step(w, s, 10)
	if e != api.OK || n != 4 || s.At != 5 || !Done(s) || s.Steps != 9 {
		t.Error(s.At, n, e)
	}
	if x, n, e := Step(w, s, 7); e != api.OK || n != 0 || !same(x, s) {
		t.Error("a state that is done")
	}
	if x, n, e := Step(w, s, -1); e != api.ErrArg || n != 0 || !same(x, s) {
		t.Error(e)
	}
	if _, n, e := Step(w, State{}, 1); e != api.ErrState || n != 0 {
		t.Error(e)
	}
	if _, _, e := Step(refs.World{}, State{}, -1); e != api.ErrArg {
		t.Error(e)
	}
	if x, _, e := Step(refs.World{}, s, 1); e != api.ErrNil || !same(x, s) {
		t.Error(e)
	}
	bad := s
	bad.At, bad.Ref = 9, 3
	if x, _, e := Step(w, bad, 1); e != api.ErrState || !same(x, bad) {
		t.Error(e)
	}
}

func TestP25_3GoalsCost(t *testing.T) {
	w := world(t, facts)
	for g, want := range map[string]int{"doc:x#viewer": 9, "doc:x#owner": 1} {
		if n, e := Cost(w, goal(t, g)); n != want || e != api.OK {
			t.Error(g, n, e)
		}
	}
	if l, e := Goals(w, goal(t, "doc:x#viewer")); e != api.OK || texts(l) != "doc:x#viewer group:g#member doc:x#owner folder:f#viewer doc:x#banned" || cap(l) != 5 {
		t.Error(l, e)
	}
	_, e1 := Goals(w, api.Goal{})
	_, e2 := Cost(w, api.Goal{})
	_, e3 := Cost(refs.World{}, api.Goal{})
	if e1 != api.ErrName || e2 != api.ErrName || e3 != api.ErrNil {
		t.Error(e1, e2, e3)
	}
}

func TestP25_4Consequences(t *testing.T) {
	r := rand.New(rand.NewSource(1))
	schema, _, _ := parsers.Parse(sample)
	for range 200 {
		w := world(t, random(r, 12))
		g := goal(t, "doc:a#viewer")
		a, _ := New(w, g)
		end, steps, _ := Step(w, a, 1<<40)
		for total := 0; !Done(a); {
			k := r.Intn(3)
			b, n, e := Step(w, a, k)
			if e != api.OK || n > k || n < k && !Done(b) || !goals.GoesOn(b.Table, a.Table) {
				t.Fatal(n, e)
			}
			total += n
			if a = b; a.Steps != total {
				t.Fatal("steps")
			}
		}
		want, _ := reaches.Goals(schema, w.Set().List(), g)
		span, _ := reaches.Of(schema, w.Set().List(), api.Query{Kind: api.Expand, Goal: g})
		if !same(a, end) || !slices.Equal(a.Table.From(0), want) || steps != span.Refs+span.Goals {
			t.Fatal("portions")
		}
	}
}
