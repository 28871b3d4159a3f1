package refs

import (
	"math/rand"
	"slices"
	"strings"
	"testing"

	"countersign/api"
	"countersign/names"
	"countersign/parsers"
	"countersign/sets"
	"countersign/tuples"
)

const sample = "namespace doc { relation parent: [folder]; relation owner: [user]; relation viewer: [user, group#member] = (this | owner | parent->viewer) - banned; relation banned: [user]; } namespace folder { relation viewer: [user]; } namespace group { relation member: [user, group#member]; } namespace user {}"

const facts = "doc:x#parent@folder:f doc:x#owner@user:a doc:x#viewer@group:g#member doc:x#viewer@user:b"

func set(t *testing.T, texts string) sets.Set {
	t.Helper()
	var l []api.Tuple
	for _, s := range strings.Fields(texts) {
		x, e := tuples.Parse(s)
		if e != api.OK {
			t.Fatal(s, e)
		}
		l = append(l, x)
	}
	s, e := sets.Of(l)
	if e != api.OK {
		t.Fatal(e)
	}
	return s
}

func world(t *testing.T, facts string) World {
	t.Helper()
	s, _, _ := parsers.Parse(sample)
	w, e := New(s, set(t, facts))
	if e != api.OK {
		t.Fatal(e)
	}
	return w
}

func goal(t *testing.T, s string) api.Goal {
	t.Helper()
	g, e := names.ParseGoal(s)
	if e != api.OK {
		t.Fatal(s, e)
	}
	return g
}

// users returns users, one for each letter.
func users(s string) (out []api.Object) {
	for _, x := range s {
		out = append(out, api.Object{Space: "user", ID: string(x)})
	}
	return out
}

func texts(l []api.Goal) string {
	var out []string
	for _, g := range l {
		out = append(out, names.GoalText(g))
	}
	return strings.Join(out, " ")
}

// truths returns truth values written as T and F.
func truths(s string) (out []bool) {
	for _, x := range s {
		out = append(out, x == 'T')
	}
	return out
}

func TestP24_1NewTablesSet(t *testing.T) {
	w := world(t, facts)
	if !sets.Same(w.Set(), set(t, facts)) || w.Tables().Many() != 6 {
		t.Error("a world")
	}
	s, _, _ := parsers.Parse(sample)
	bad, _, _ := parsers.Parse("namespace a { relation b: [a] = this - b; }")
	if w, e := New(bad, set(t, "x:y#z@a:b")); e != api.ErrStrata || w.Tables() != nil {
		t.Error(e)
	}
	if w, e := New(s, set(t, facts+" doc:x#owner@folder:f")); e != api.ErrType || w.Set().Len() != 0 {
		t.Error(e)
	}
	var none World
	g := goal(t, "doc:x#viewer")
	_, e1 := none.Stratum(g)
	_, e2 := none.Leaves(g)
	_, e3 := none.Refs(g)
	_, e4 := none.Holds(g, api.Object{}, nil)
	_, e5 := none.Users(api.Goal{}, nil)
	for i, e := range []api.Errno{none.Check(api.Goal{}), e1, e2, e3, e4, e5} {
		if e != api.ErrNil {
			t.Error(i, e)
		}
	}
	if none.Tables() != nil || none.Set().Len() != 0 {
		t.Error("the zero world")
	}
}

func TestP24_2CheckStratum(t *testing.T) {
	w := world(t, facts)
	for g, want := range map[string]int{"doc:x#viewer": 1, "doc:x#banned": 0, "doc:q#viewer": 1} {
		if n, e := w.Stratum(goal(t, g)); n != want || e != api.OK || w.Check(goal(t, g)) != api.OK {
			t.Error(g, n, e)
		}
	}
	for _, g := range []api.Goal{{}, goal(t, "doc:x#x"), goal(t, "user:x#viewer"), {Object: api.Object{Space: "doc", ID: "X"}, Rel: "viewer"}} {
		_, e1 := w.Stratum(g)
		_, e2 := w.Leaves(g)
		_, e3 := w.Refs(g)
		_, e4 := w.Holds(g, api.Object{}, nil)
		_, e5 := w.Users(g, nil)
		for i, e := range []api.Errno{w.Check(g), e1, e2, e3, e4, e5} {
			if e != api.ErrName {
				t.Error(g, i, e)
			}
		}
	}
}

func TestP24_3LeavesRefs(t *testing.T) {
	w := world(t, facts+" doc:x#parent@folder:e")
	l, e := w.Leaves(goal(t, "doc:x#viewer"))
	if e != api.OK || len(l) != 4 || cap(l) != 4 {
		t.Fatal(l, e)
	}
	for i, want := range []struct {
		kind  uint8
		users string
		goals string
	}{{api.This, "b", "group:g#member"}, {api.Computed, "", "doc:x#owner"}, {api.Arrow, "", "folder:e#viewer folder:f#viewer"}, {api.Computed, "", "doc:x#banned"}} {
		if l[i].Kind != want.kind || !slices.Equal(l[i].Users, users(want.users)) || texts(l[i].Goals) != want.goals || cap(l[i].Goals) != len(l[i].Goals) {
			t.Error(l[i])
		}
	}
	other, _, _ := parsers.Parse("namespace user {} namespace doc { relation p: [doc, user, doc#v]; relation v: [user] = this | p->v; }")
	o, e := New(other, set(t, "doc:a#p@doc:b doc:a#p@doc:c#v doc:a#p@user:a doc:a#p@doc:d doc:a#v@user:a doc:a#v@user:b"))
	if e != api.OK {
		t.Fatal(e)
	}
	l, _ = o.Leaves(goal(t, "doc:a#v"))
	if texts(l[1].Goals) != "doc:b#v doc:d#v" || len(l[0].Users) != 2 || cap(l[0].Users) != 2 || cap(l[1].Goals) != 2 {
		t.Error(l)
	}
	r, e := world(t, facts).Refs(goal(t, "doc:x#viewer"))
	if e != api.OK || texts(r) != "group:g#member doc:x#owner folder:f#viewer doc:x#banned" || cap(r) != 4 {
		t.Error(r, e)
	}
}

func TestP24_4HoldsUsers(t *testing.T) {
	w, g := world(t, facts), goal(t, "doc:x#viewer")
	for i, x := range []struct {
		user, truths string
		want         bool
		e            api.Errno
	}{{"c", "FTFF", true, 0}, {"c", "FTFT", false, 0}, {"b", "FFFF", true, 0}, {"b", "FFF", false, api.ErrRange}, {"c", "FFFF", false, 0}, {"C", "TFFF", true, 0}, {"b", "FFFFF", false, api.ErrRange}} {
		if v, e := w.Holds(g, users(x.user)[0], truths(x.truths)); v != x.want || e != x.e {
			t.Error(i, v, e)
		}
	}
	sets := [][]api.Object{users("c"), users("ab"), nil, users("b")}
	if l, e := w.Users(g, sets); e != api.OK || !slices.Equal(l, users("ac")) || cap(l) != 2 {
		t.Error(l, e)
	}
	if _, e := w.Users(g, sets[:3]); e != api.ErrRange {
		t.Error(e)
	}
	for _, bad := range []string{"ba", "aa"} {
		if l, e := w.Users(g, [][]api.Object{nil, nil, nil, users(bad)}); e != api.ErrOrder || len(l) != 0 {
			t.Error(e)
		}
	}
	one := goal(t, "folder:f#viewer")
	w = world(t, "folder:f#viewer@user:a")
	l, _ := w.Users(one, nil)
	l[0].ID = "x"
	if l, _ := w.Users(one, nil); l[0].ID != "a" {
		t.Error("shared")
	}
}

func TestP24_5Consequences(t *testing.T) {
	w, g := world(t, facts), goal(t, "doc:x#viewer")
	refs, _ := w.Refs(g)
	top, _ := w.Stratum(g)
	r := rand.New(rand.NewSource(1))
	for range 300 {
		var sets [][]api.Object
		for _, ref := range refs {
			if n, e := w.Stratum(ref); e != api.OK || n > top {
				t.Fatal(ref)
			}
			var l []api.Object
			for _, u := range users("abcd") {
				if r.Intn(2) == 0 {
					l = append(l, u)
				}
			}
			sets = append(sets, l)
		}
		got, _ := w.Users(g, sets)
		for _, u := range users("abcde") {
			values := make([]bool, len(sets))
			for i, l := range sets {
				values[i] = slices.Contains(l, u)
			}
			holds, _ := w.Holds(g, u, values)
			if holds != slices.Contains(got, u) {
				t.Fatal("Holds and Users")
			}
			for i, ref := range refs {
				if n, _ := w.Stratum(ref); n == top && holds && !values[i] {
					values[i] = true
					if still, _ := w.Holds(g, u, values); !still {
						t.Fatal("a reference that becomes true")
					}
				}
			}
		}
	}
}
