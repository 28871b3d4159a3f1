package traverses

import (
	"fmt"
	"math/rand"
	"slices"
	"strings"
	"testing"

	"countersign/api"
	"countersign/explores"
	"countersign/goals"
	"countersign/models"
	"countersign/names"
	"countersign/parsers"
	"countersign/reaches"
	"countersign/refs"
	"countersign/sets"
	"countersign/solves"
	"countersign/tuples"
)

// equal reports whether two values are equal; lists that are nil and empty are.
func equal(a, b any) bool { return fmt.Sprint(a) == fmt.Sprint(b) }

const sample = "namespace doc { relation parent: [folder]; relation owner: [user]; relation viewer: [user, group#member] = (this | owner | parent->viewer) - banned; relation banned: [user]; } namespace folder { relation viewer: [user]; } namespace group { relation member: [user, group#member]; } namespace user {}"

const facts = "doc:x#parent@folder:f doc:x#owner@user:a doc:x#viewer@group:g#member doc:x#viewer@user:b"

// world returns the world of the schema and some tuples.
func world(t *testing.T, facts string) refs.World {
	t.Helper()
	var l []api.Tuple
	for _, s := range strings.Fields(facts) {
		x, e := tuples.Parse(s)
		if e != api.OK {
			t.Fatal(s, e)
		}
		l = append(l, x)
	}
	set, _ := sets.Of(l)
	s, _, _ := parsers.Parse(sample)
	w, e := refs.New(s, set)
	if e != api.OK {
		t.Fatal(e)
	}
	return w
}

// random returns tuples that fit.
func random(r *rand.Rand, n int) string {
	all := []string{"doc:A#parent@folder:B", "doc:A#owner@user:B", "doc:A#viewer@user:B", "doc:A#viewer@group:B#member", "doc:A#banned@user:B", "folder:A#viewer@user:B", "group:A#member@user:B", "group:A#member@group:B#member"}
	var out []string
	for range n {
		out = append(out, strings.NewReplacer("A", string(rune('a'+r.Intn(3))), "B", string(rune('a'+r.Intn(3)))).Replace(all[r.Intn(len(all))]))
	}
	return strings.Join(out, " ")
}

func goal(t *testing.T, s string) api.Goal {
	t.Helper()
	g, e := names.ParseGoal(s)
	if e != api.OK {
		t.Fatal(s, e)
	}
	return g
}

func check(t *testing.T, g, u string) api.Query {
	return api.Query{Kind: api.Check, Goal: goal(t, g), User: api.Object{Space: "user", ID: u}}
}

func expand(t *testing.T, g string) api.Query {
	return api.Query{Kind: api.Expand, Goal: goal(t, g)}
}

// list returns a copy of a list, nil for an empty one.
func list[T any](l []T) []T { return append([]T(nil), l...) }

// twin returns an equal traversal with lists of its own.
func twin(x Traversal) Traversal {
	x.Truth.Values, x.Truth.Ranks = list(x.Truth.Values), list(x.Truth.Ranks)
	x.Sweep.Values, x.Sweep.Ranks = list(x.Sweep.Values), list(x.Sweep.Ranks)
	for i, set := range x.Sweep.Values {
		x.Sweep.Values[i] = list(set)
	}
	return x
}

// same reports whether two traversals are equal.
func same(a, b Traversal) bool {
	tables := func(x Traversal) [][]api.Goal {
		return [][]api.Goal{x.Search.Table.From(0), x.Truth.Table.From(0), x.Sweep.Table.From(0)}
	}
	searched := equal(tables(a), tables(b))
	for _, x := range []*Traversal{&a, &b} {
		*x = twin(*x)
		x.Search.Table, x.Truth.Table, x.Sweep.Table = goals.Table{}, goals.Table{}, goals.Table{}
	}
	return searched && equal(a, b)
}

// after returns a traversal after some steps.
func after(t *testing.T, w World, q api.Query, k int) Traversal {
	t.Helper()
	x, e := New(w, q)
	if e != api.OK {
		t.Fatal(e)
	}
	x, _, e = Step(w, x, k)
	if e != api.OK {
		t.Fatal(e)
	}
	return x
}

func TestP28_1RightNew(t *testing.T) {
	w := world(t, facts)
	both := expand(t, "doc:x#viewer")
	both.User.ID = "a"
	wrong := check(t, "doc:x#none", "A")
	for i, c := range []struct {
		q api.Query
		e api.Errno
	}{{check(t, "doc:x#viewer", "a"), 0}, {expand(t, "doc:x#viewer"), 0}, {api.Query{Kind: 3}, api.ErrKind}, {check(t, "doc:x#none", "a"), api.ErrName}, {wrong, api.ErrName}, {check(t, "doc:x#viewer", "A"), api.ErrName}, {both, api.ErrForm}} {
		x, e := New(w, c.q)
		if e != c.e || Right(w, c.q) != c.e || Right(World{}, c.q) != api.ErrNil || e == api.OK && (Check(w, x) != api.OK || x.Cost() != 0 || x.Done()) || e != api.OK && !same(x, Traversal{}) {
			t.Error(i, e)
		}
	}
}

func TestP28_2CheckStep(t *testing.T) {
	w := world(t, facts)
	q := check(t, "doc:x#viewer", "a")
	x := after(t, w, q, 9)
	if !explores.Done(x.Search) || len(x.Truth.Values) != 5 || x.Truth.Steps != 0 || x.Cost() != 9 {
		t.Error(x)
	}
	y, n, e := Step(w, x, 1)
	if e != api.OK || n != 1 || y.Truth.Steps != 1 || x.Truth.Steps != 0 {
		t.Error(n, e)
	}
	y.Truth.Ranks[0] = 1
	if x.Truth.Ranks[0] != 0 {
		t.Error("shared")
	}
	end := after(t, w, q, 19)
	if !end.Over || Check(w, end) != api.OK {
		t.Error("the last step")
	}
	early, other := after(t, w, q, 3), after(t, w, expand(t, "doc:x#viewer"), 12)
	for i, c := range []struct {
		x      Traversal
		change func(x *Traversal)
		e      api.Errno
	}{
		{early, func(x *Traversal) { x.Query.Kind = 0 }, api.ErrKind}, {early, func(x *Traversal) { x.Query.Goal.Rel = "owner" }, api.ErrState}, {early, func(x *Traversal) { x.Search.Ref = 9 }, api.ErrState}, {early, func(x *Traversal) { x.Truth = end.Truth }, api.ErrState}, {early, func(x *Traversal) { x.Sweep.At = 1 }, api.ErrState}, {early, func(x *Traversal) { x.Over = true }, api.ErrState},
		{early, func(x *Traversal) { x.Truth.Values = []bool{} }, 0}, {end, func(x *Traversal) { x.Over = false }, api.ErrState}, {x, func(x *Traversal) { x.Over = true }, api.ErrState}, {end, func(x *Traversal) { x.Sweep.Changed = true }, api.ErrState}, {end, func(x *Traversal) { x.Sweep.Table = x.Search.Table }, api.ErrState}, {end, func(x *Traversal) { x.Truth.At = 1 }, api.ErrState},
		{end, func(x *Traversal) { x.Search.Steps = 1 << 62 }, api.ErrState}, {end, func(x *Traversal) { x.Search.Steps = 1<<62 - 10 }, 0}, {end, func(x *Traversal) { x.Truth.Steps = 1 << 62 }, api.ErrState}, {end, func(x *Traversal) { x.Truth.Steps = 1<<62 - 9 }, 0}, {end, func(x *Traversal) { x.Search.Steps, x.Truth.Steps = 1<<62, 1<<62 }, api.ErrState}, {other, func(x *Traversal) { x.Sweep.Values[0] = []api.Object{{Space: "b"}, {Space: "a"}} }, api.ErrState}, {other, func(x *Traversal) { x.Sweep.Values[0] = []api.Object{{Space: "a"}, {Space: "b"}} }, 0},
		{other, func(x *Traversal) { x.Query = q }, api.ErrState}, {other, func(x *Traversal) { x.Truth.Steps = 1 }, api.ErrState}, {end, func(x *Traversal) {
			x.Truth, _ = solves.New[bool](w, after(t, w, check(t, "doc:x#owner", "a"), 1).Search.Table)
		}, api.ErrState},
		{end, func(x *Traversal) { *x = Traversal{} }, api.ErrKind}, {end, func(x *Traversal) { x.Search = explores.State{} }, api.ErrState},
	} {
		y := twin(c.x)
		c.change(&y)
		if e := Check(w, y); e != c.e {
			t.Error(i, e)
		}
		if z, n, e := Step(w, y, 0); e != c.e || n != 0 || !same(y, z) {
			t.Error(i, n, e)
		}
	}
	if _, n, e := Step(w, Traversal{}, -1); e != api.ErrArg || n != 0 {
		t.Error(e)
	}
	for _, k := range []int{-1, 0} {
		y, _, _ := Step(w, x, k)
		z, _, _ := Step(w, other, k)
		if y.Truth.Values[0], z.Sweep.Values[0] = true, nil; len(z.Sweep.Ranks) > 0 {
			z.Sweep.Ranks[0] = 99
		}
		if x.Truth.Values[0] || other.Sweep.Ranks[0] == 99 {
			t.Error("shared")
		}
	}
	if z, n, e := Step(World{}, x, 5); e != api.ErrNil || n != 0 || !same(z, x) {
		t.Error(e)
	}
}

func TestP28_3DoneAnswerCostGoals(t *testing.T) {
	w := world(t, facts)
	end := after(t, w, check(t, "doc:x#viewer", "a"), 100)
	if yes, l, e := end.Answer(); !yes || len(l) != 0 || e != api.OK || !end.Done() || end.Cost() != 19 || len(end.Goals()) != 5 || cap(end.Goals()) != 5 {
		t.Error(yes, e)
	}
	x := after(t, w, expand(t, "doc:x#viewer"), 100)
	_, l, e := x.Answer()
	if e != api.OK || len(l) != 2 || cap(l) != 2 {
		t.Error(l, e)
	}
	l[0].ID = "q"
	if _, l, _ := x.Answer(); l[0].ID != "a" {
		t.Error("shared")
	}
	early := after(t, w, check(t, "doc:x#viewer", "a"), 18)
	if yes, _, e := early.Answer(); yes || e != api.ErrState || early.Done() || early.Cost() != 18 {
		t.Error(e)
	}
	odd := Traversal{Over: true, Sweep: x.Sweep, Truth: solves.State[bool]{Steps: 1 << 62}}
	odd.Search.Steps = 1 << 62
	if _, l, e := odd.Answer(); e != api.OK || len(l) != 2 || odd.Cost() >= 0 || !odd.Done() {
		t.Error(l, e, odd.Cost())
	}
	odd.Query.Kind = api.Check
	if _, _, e := odd.Answer(); e != api.ErrState {
		t.Error(e)
	}
	if _, _, e := (Traversal{Over: true}).Answer(); e != api.ErrState || len(Traversal{}.Goals()) != 0 {
		t.Error(e)
	}
}

func TestP28_4Ask(t *testing.T) {
	w := world(t, facts)
	for i, c := range []struct {
		u    string
		yes  bool
		cost int
	}{{"a", true, 19}, {"b", true, 15}, {"c", false, 14}} {
		if yes, l, cost, e := Ask(w, check(t, "doc:x#viewer", c.u)); yes != c.yes || len(l) != 0 || cost != c.cost || e != api.OK {
			t.Error(i, yes, cost, e)
		}
	}
	if _, l, cost, e := Ask(w, expand(t, "doc:x#viewer")); len(l) != 2 || cost != 19 || e != api.OK {
		t.Error(l, cost, e)
	}
	if _, _, cost, e := Ask(w, api.Query{Kind: 3}); cost != 0 || e != api.ErrKind {
		t.Error(e)
	}
	if _, _, _, e := Ask(refs.World{}, api.Query{Kind: 3}); e != api.ErrNil {
		t.Error(e)
	}
}

func TestP28_5Consequences(t *testing.T) {
	r := rand.New(rand.NewSource(1))
	schema, _, _ := parsers.Parse(sample)
	for range 150 {
		w := world(t, random(r, 14))
		l := w.Set().List()
		for _, q := range []api.Query{check(t, "doc:a#viewer", "a"), expand(t, "doc:a#viewer")} {
			yes, users, cost, e := Ask(w, q)
			wantYes, _ := models.Check(schema, l, q.Goal, api.Object{Space: "user", ID: "a"})
			wantUsers, _ := models.Expand(schema, l, q.Goal)
			want, _ := reaches.Cost(schema, l, q)
			if e != api.OK || cost != want || cost < 2 || q.Kind == api.Check && yes != wantYes || q.Kind == api.Expand && !slices.Equal(users, wantUsers) {
				t.Fatal("the answer", e)
			}
			x, _ := New(w, q)
			for !x.Done() {
				y, n, e := Step(w, x, r.Intn(5))
				if e != api.OK || y.Cost() != x.Cost()+n {
					t.Fatal(e)
				}
				if !same(y, after(t, w, q, y.Cost())) || Check(w, y) != api.OK {
					t.Fatal("portions")
				}
				x = y
			}
			if x.Cost() != cost {
				t.Fatal("the cost")
			}
		}
	}
}
