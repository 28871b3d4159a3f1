package reaches

import (
	"math/rand"
	"slices"
	"strconv"
	"strings"
	"testing"

	"countersign/api"
	"countersign/models"
	"countersign/names"
	"countersign/parsers"
	"countersign/tables"
	"countersign/tuples"
)

const sample = "namespace user {} namespace group { relation m: [user, group#m]; } namespace doc { relation p: [doc]; relation b: [group#m]; relation v: [user, group#m] = (this | p->v) - b; }"

const facts = "doc:a#p@doc:c doc:c#v@group:g#m group:g#m@user:x group:g#m@group:h#m group:h#m@user:y group:h#m@group:g#m doc:a#b@group:h#m doc:c#v@user:z"

func parsed(t *testing.T, text string) api.Schema {
	t.Helper()
	s, _, e := parsers.Parse(text)
	if e != api.OK {
		t.Fatal(text, e)
	}
	return s
}

func list(t *testing.T, texts string) []api.Tuple {
	t.Helper()
	var l []api.Tuple
	for _, s := range strings.Fields(texts) {
		x, e := tuples.Parse(s)
		if e != api.OK {
			t.Fatal(s, e)
		}
		l = append(l, x)
	}
	return l
}

func goal(t *testing.T, s string) api.Goal {
	t.Helper()
	g, e := names.ParseGoal(s)
	if e != api.OK {
		t.Fatal(s, e)
	}
	return g
}

func check(t *testing.T, g, u string) api.Query {
	return api.Query{Kind: api.Check, Goal: goal(t, g), User: api.Object{Space: "user", ID: u}}
}

func expand(t *testing.T, g string) api.Query {
	return api.Query{Kind: api.Expand, Goal: goal(t, g)}
}

func goals(l []api.Goal) string {
	var out []string
	for _, g := range l {
		out = append(out, names.GoalText(g))
	}
	return strings.Join(out, " ")
}

func TestP22_1RefsGoals(t *testing.T) {
	s, l := parsed(t, sample), list(t, facts)
	for g, want := range map[string]string{"doc:a#v": "doc:c#v doc:a#b", "doc:a#b": "group:h#m", "doc:q#v": "doc:q#b", "doc:c#v": "group:g#m doc:c#b"} {
		if x, e := Refs(s, l, goal(t, g)); e != api.OK || goals(x) != want || cap(x) != len(x) {
			t.Error(g, x, e)
		}
	}
	double := list(t, "doc:a#v@group:h#m doc:a#v@group:g#m doc:a#v@group:h#m")
	if x, e := Refs(s, double, goal(t, "doc:a#v")); e != api.OK || goals(x) != "group:g#m group:h#m doc:a#b" {
		t.Error(x, e)
	}
	if x, e := Goals(s, l, goal(t, "doc:a#v")); e != api.OK || goals(x) != "doc:a#v doc:c#v doc:a#b group:g#m doc:c#b group:h#m" || cap(x) != 6 {
		t.Error(x, e)
	}
	bad := list(t, "doc:a#p@user:x")
	_, e1 := Refs(s, l, goal(t, "doc:a#w"))
	_, e2 := Goals(s, l, goal(t, "doc:a#w"))
	_, e3 := Refs(s, bad, goal(t, "doc:a#w"))
	_, e4 := Goals(s, bad, goal(t, "doc:a#w"))
	if e1 != api.ErrName || e2 != api.ErrName || e3 != api.ErrType || e4 != api.ErrType {
		t.Error(e1, e2, e3, e4)
	}
}

func TestP22_2Query(t *testing.T) {
	s := parsed(t, sample)
	both := expand(t, "doc:a#v")
	both.User.ID = "x"
	for i, x := range []struct {
		q api.Query
		e api.Errno
	}{
		{check(t, "doc:a#v", "x"), 0}, {expand(t, "doc:a#v"), 0}, {api.Query{}, api.ErrKind}, {api.Query{Kind: 3}, api.ErrKind}, {check(t, "doc:a#w", "x"), api.ErrName}, {check(t, "doc:a#v", "X"), api.ErrName}, {expand(t, "team:a#v"), api.ErrName}, {both, api.ErrForm},
	} {
		if e := Query(s, x.q); e != x.e {
			t.Error(i, e)
		}
		if _, e := Of(s, nil, x.q); e != x.e {
			t.Error(i, e)
		}
		if _, e := Bound(s, nil, x.q); e != x.e {
			t.Error(i, e)
		}
	}
	if e := Query(parsed(t, "namespace a { relation b: [a] = this - b; }"), api.Query{}); e != api.ErrStrata {
		t.Error(e)
	}
}

func TestP22_3OfCost(t *testing.T) {
	s, l := parsed(t, sample), list(t, facts)
	for i, x := range []struct {
		q    api.Query
		want Span
	}{{check(t, "doc:a#v", "x"), Span{6, 7, 2, 5, 16, 29}}, {check(t, "doc:q#b", "x"), Span{1, 0, 1, 1, 1, 2}}} {
		if got, e := Of(s, l, x.q); e != api.OK || got != x.want {
			t.Error(i, got, e)
		}
		if got, e := Cost(s, append(l, l...), x.q); e != api.OK || got != x.want.Cost {
			t.Error(i, got, e)
		}
	}
	chain := list(t, "group:9#m@user:x")
	for i := range 9 {
		chain = append(chain, list(t, "group:"+strconv.Itoa(i)+"#m@group:"+strconv.Itoa(i+1)+"#m")...)
	}
	if got, e := Of(s, chain, check(t, "group:0#m", "x")); e != api.OK || got != (Span{10, 9, 1, 11, 110, 129}) {
		t.Error(got, e)
	}
	if x, e := Of(s, list(t, "doc:a#p@user:x"), api.Query{}); e != api.ErrType || x != (Span{}) {
		t.Error(e)
	}
}

func TestP22_4Bound(t *testing.T) {
	s, l := parsed(t, sample), list(t, facts)
	// Goals 6, references 7; four goals in the stratum 0, two in the stratum 1.
	if n, e := Bound(s, l, check(t, "doc:a#v", "x")); e != api.OK || n != 13+4*5+2*3 {
		t.Error(n, e)
	}
	if n, e := Bound(s, l, expand(t, "doc:a#v")); e != api.OK || n != 13+4*(1+4*4)+2*(1+2*4) {
		t.Error(n, e)
	}
	if n, e := Bound(s, list(t, "doc:a#p@user:x"), api.Query{}); e != api.ErrType || n != 0 {
		t.Error(e)
	}
}

// played makes the passes of a query with models.Made, as the chapter says, and looks whether the values in the end are those of the model.
func played(t *testing.T, s api.Schema, l []api.Tuple, q api.Query) (passes, evals int) {
	t.Helper()
	values := map[api.Goal][]api.Object{}
	table, _ := Goals(s, l, q.Goal)
	compiled, _ := tables.Of(s)
	for stratum := range compiled.Strata() {
		var level []api.Goal
		for _, g := range table {
			if x, _ := compiled.Find(g.Object.Space, g.Rel); x.Stratum == stratum {
				level = append(level, g)
			}
		}
		for changed := len(level) > 0; changed; passes++ {
			changed = false
			for _, g := range level {
				var v []models.Value
				for g, users := range values {
					v = append(v, models.Value{Goal: g, Users: users})
				}
				users, e := models.Made(s, l, v, g)
				if e != api.OK {
					t.Fatal(e)
				}
				if evals++; q.Kind == api.Check {
					changed = changed || slices.Contains(users, q.User) != slices.Contains(values[g], q.User)
				} else {
					changed = changed || !slices.Equal(users, values[g])
				}
				values[g] = users
			}
		}
	}
	for _, g := range table {
		if want, _ := models.Expand(s, l, g); q.Kind == api.Expand && !slices.Equal(want, values[g]) {
			t.Fatal("the values in the end")
		}
	}
	return passes, evals
}

func TestP22_5Consequences(t *testing.T) {
	s := parsed(t, sample)
	r := rand.New(rand.NewSource(1))
	var all []api.Tuple
	for _, a := range "abc" {
		for _, b := range "abc" {
			all = append(all, list(t, strings.NewReplacer("A", string(a), "B", string(b)).Replace("doc:A#p@doc:B doc:A#b@group:B#m doc:A#v@group:B#m doc:A#v@user:B group:A#m@group:B#m group:A#m@user:B"))...)
		}
	}
	for range 200 {
		var l []api.Tuple
		for range r.Intn(14) {
			l = append(l, all[r.Intn(len(all))])
		}
		for _, q := range []api.Query{check(t, "doc:a#v", "a"), expand(t, "doc:a#v")} {
			x, e := Of(s, l, q)
			bound, _ := Bound(s, l, q)
			if e != api.OK || x.Cost < 2 || x.Cost > bound {
				t.Fatal(x, bound, e)
			}
			if passes, evals := played(t, s, l, q); passes != x.Passes || evals != x.Evals {
				t.Fatal(passes, evals, x)
			}
			table, _ := Goals(s, l, q.Goal)
			other := list(t, "doc:z#v@user:a")
			if y, _ := Of(s, append(l, other...), q); !slices.Contains(table, other[0].Goal) && y != x {
				t.Fatal("a tuple that does not matter")
			}
		}
	}
}
