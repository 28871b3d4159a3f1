package sweeps

import (
	"math/rand"
	"slices"
	"strings"
	"testing"

	"countersign/api"
	"countersign/explores"
	"countersign/goals"
	"countersign/models"
	"countersign/names"
	"countersign/parsers"
	"countersign/reaches"
	"countersign/refs"
	"countersign/sets"
	"countersign/solves"
	"countersign/tuples"
)

const sample = "namespace doc { relation parent: [folder]; relation owner: [user]; relation viewer: [user, group#member] = (this | owner | parent->viewer) - banned; relation banned: [user]; } namespace folder { relation viewer: [user]; } namespace group { relation member: [user, group#member]; } namespace user {}"

const facts = "doc:x#parent@folder:f doc:x#owner@user:a doc:x#viewer@group:g#member doc:x#viewer@user:b"

// world returns the world of the schema and some tuples.
func world(t *testing.T, facts string) refs.World {
	t.Helper()
	var l []api.Tuple
	for _, s := range strings.Fields(facts) {
		x, e := tuples.Parse(s)
		if e != api.OK {
			t.Fatal(s, e)
		}
		l = append(l, x)
	}
	set, _ := sets.Of(l)
	s, _, _ := parsers.Parse(sample)
	w, e := refs.New(s, set)
	if e != api.OK {
		t.Fatal(e)
	}
	return w
}

// random returns tuples that fit.
func random(r *rand.Rand, n int) string {
	all := []string{"doc:A#parent@folder:B", "doc:A#owner@user:B", "doc:A#viewer@user:B", "doc:A#viewer@group:B#member", "doc:A#banned@user:B", "folder:A#viewer@user:B", "group:A#member@user:B", "group:A#member@group:B#member"}
	var out []string
	for range n {
		out = append(out, strings.NewReplacer("A", string(rune('a'+r.Intn(3))), "B", string(rune('a'+r.Intn(3)))).Replace(all[r.Intn(len(all))]))
	}
	return strings.Join(out, " ")
}

func goal(t *testing.T, s string) api.Goal {
	t.Helper()
	g, e := names.ParseGoal(s)
	if e != api.OK {
		t.Fatal(s, e)
	}
	return g
}

func table(t *testing.T, w refs.World, g string) goals.Table {
	t.Helper()
	l, e := explores.Goals(w, goal(t, g))
	if e != api.OK {
		t.Fatal(e)
	}
	x, _ := goals.Of(l)
	return x
}

// users returns users, one for each letter.
func users(s string) (out []api.Object) {
	for _, x := range s {
		out = append(out, api.Object{Space: "user", ID: string(x)})
	}
	return out
}

// text returns the values of a state, by the IDs of their users.
func text(values [][]api.Object) string {
	var out []string
	for _, set := range values {
		s := ""
		for _, o := range set {
			s += o.ID
		}
		out = append(out, s)
	}
	return strings.Join(out, ",")
}

func TestP27_1MakeSame(t *testing.T) {
	w, g := world(t, facts), goal(t, "doc:x#viewer")
	if l, e := (Users{}).Make(w, g, [][]api.Object{users("c"), users("ab"), nil, users("b")}); e != api.OK || !slices.Equal(l, users("ac")) {
		t.Error(l, e)
	}
	_, e1 := Users{}.Make(w, g, nil)
	_, e2 := Users{}.Make(w, api.Goal{}, nil)
	_, e3 := Users{}.Make(refs.World{}, g, nil)
	_, e4 := Users{}.Make(w, g, [][]api.Object{users("ba"), nil, nil, nil})
	if e1 != api.ErrRange || e2 != api.ErrName || e3 != api.ErrNil || e4 != api.ErrOrder {
		t.Error(e1, e2, e3, e4)
	}
	if !(Users{}).Same(nil, []api.Object{}) || (Users{}).Same(users("a"), users("b")) || (Users{}).Same(users("a"), users("ab")) || !(Users{}).Same(users("ab"), users("ab")) {
		t.Error("Same")
	}
}

func TestP27_2NewStep(t *testing.T) {
	w := world(t, facts)
	x := table(t, w, "doc:x#viewer")
	s, e := New(w, x)
	if e != api.OK || len(s.Values) != 5 || Count(s) != 0 {
		t.Error(e)
	}
	s, n, e := Step(w, s, 2)
	if e != api.OK || n != 2 || Count(s) != 1 {
		t.Error(n, e)
	}
	y, n, e := Step(w, s, 1)
	if e != api.OK || n != 1 {
		t.Error(n, e)
	}
	if y.Values[2][0].ID = "q"; s.Values[2][0].ID != "a" {
		t.Error("shared")
	}
	bad := Copy(s)
	bad.Values[3] = users("ba")
	for i, c := range []struct {
		w refs.World
		s State
		k int
		e api.Errno
	}{{w, bad, 1, api.ErrOrder}, {w, bad, -1, api.ErrArg}, {w, State{}, 1, api.ErrState}, {refs.World{}, bad, 1, api.ErrNil}} {
		got, n, e := Step(c.w, c.s, c.k)
		if e != c.e || n != 0 || text(got.Values) != text(c.s.Values) || got.Steps != c.s.Steps {
			t.Error(i, e)
		}
		if len(got.Values) > 0 {
			if got.Values[2][0].ID = "q"; c.s.Values[2][0].ID != "a" {
				t.Error(i, "shared")
			}
		}
	}
	_, e1 := New(w, goals.Table{})
	_, e2 := New(refs.World{}, x)
	if e1 != api.ErrState || e2 != api.ErrNil {
		t.Error(e1, e2)
	}
}

func TestP27_3CopyOf(t *testing.T) {
	w := world(t, facts)
	x := table(t, w, "doc:x#viewer")
	v, n, e := Of(w, x)
	if e != api.OK || n != 10 || text(v) != "ab,,a,," || cap(v) != 5 || cap(v[0]) != 2 {
		t.Error(text(v), n, e)
	}
	if v, n, e := Of(refs.World{}, x); e != api.ErrNil || len(v) != 0 || n != 0 {
		t.Error(e)
	}
	s := State{Values: [][]api.Object{users("ba"), nil}, Ranks: []int{7}, Level: -3, At: 5, Changed: true, Steps: -9}
	c := Copy(s)
	if text(c.Values) != "ba," || c.Ranks[0] != 7 || c.Level != -3 || c.At != 5 || !c.Changed || c.Steps != -9 || cap(c.Values[0]) != 2 {
		t.Error(c)
	}
	c.Values[0][0].ID, c.Ranks[0] = "q", 8
	if s.Values[0][0].ID != "b" || s.Ranks[0] != 7 {
		t.Error("shared")
	}
}

func TestP27_4ProjectCount(t *testing.T) {
	w := world(t, facts)
	s, _ := New(w, table(t, w, "doc:x#viewer"))
	s, _, _ = Step(w, s, 100)
	if !slices.Equal(Project(s, users("a")[0]), []bool{true, false, true, false, false}) || Count(s) != 3 || cap(Project(s, users("a")[0])) != 5 {
		t.Error(Project(s, users("a")[0]), Count(s))
	}
	odd := State{Values: [][]api.Object{users("ba"), users("aa")}}
	if !slices.Equal(Project(odd, users("a")[0]), []bool{true, true}) || Count(odd) != 4 || len(Project(State{}, api.Object{})) != 0 || Count(State{}) != 0 {
		t.Error("any state")
	}
}

func TestP27_5Consequences(t *testing.T) {
	r := rand.New(rand.NewSource(1))
	schema, _, _ := parsers.Parse(sample)
	for range 150 {
		w := world(t, random(r, 14))
		x := table(t, w, "doc:a#viewer")
		v, steps, _ := Of(w, x)
		s, _ := New(w, x)
		for !solves.Done(w, s) {
			y, _, e := Step(w, s, r.Intn(4))
			if e != api.OK {
				t.Fatal(e)
			}
			for i, set := range s.Values {
				for _, o := range set {
					if !slices.Contains(y.Values[i], o) {
						t.Fatal("a value shrinks")
					}
				}
			}
			s = y
		}
		if text(s.Values) != text(v) || s.Steps != steps {
			t.Fatal("portions")
		}
		q := api.Query{Kind: api.Expand, Goal: goal(t, "doc:a#viewer")}
		bound, _ := reaches.Bound(schema, w.Set().List(), q)
		search, _ := explores.Cost(w, q.Goal)
		if steps > bound-search {
			t.Fatal("too many steps")
		}
		model, _ := models.Of(schema, w.Set().List())
		for i, g := range x.From(0) {
			if want, _ := model.Users(g); !slices.Equal(want, v[i]) {
				t.Fatal("the model")
			}
		}
		for _, u := range users("abc") {
			if truths, _, _ := solves.Truths(w, x, u); !slices.Equal(truths, Project(s, u)) {
				t.Fatal("the projection")
			}
		}
	}
}
