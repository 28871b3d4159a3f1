package meters

import (
	"math/rand"
	"slices"
	"strings"
	"testing"

	"countersign/api"
	"countersign/models"
	"countersign/names"
	"countersign/parsers"
	"countersign/reaches"
	"countersign/refs"
	"countersign/sets"
	"countersign/tuples"
)

const sample = "namespace doc { relation parent: [folder]; relation owner: [user]; relation viewer: [user, group#member] = (this | owner | parent->viewer) - banned; relation banned: [user]; } namespace folder { relation viewer: [user]; } namespace group { relation member: [user, group#member]; } namespace user {}"

const facts = "doc:x#parent@folder:f doc:x#owner@user:a doc:x#viewer@group:g#member doc:x#viewer@user:b"

// world returns the world of the schema and some tuples.
func world(t *testing.T, facts string) refs.World {
	t.Helper()
	var l []api.Tuple
	for _, s := range strings.Fields(facts) {
		x, e := tuples.Parse(s)
		if e != api.OK {
			t.Fatal(s, e)
		}
		l = append(l, x)
	}
	set, _ := sets.Of(l)
	s, _, _ := parsers.Parse(sample)
	w, e := refs.New(s, set)
	if e != api.OK {
		t.Fatal(e)
	}
	return w
}

// random returns tuples that fit.
func random(r *rand.Rand, n int) string {
	all := []string{"doc:A#parent@folder:B", "doc:A#owner@user:B", "doc:A#viewer@user:B", "doc:A#viewer@group:B#member", "doc:A#banned@user:B", "folder:A#viewer@user:B", "group:A#member@user:B", "group:A#member@group:B#member"}
	var out []string
	for range n {
		out = append(out, strings.NewReplacer("A", string(rune('a'+r.Intn(3))), "B", string(rune('a'+r.Intn(3)))).Replace(all[r.Intn(len(all))]))
	}
	return strings.Join(out, " ")
}

func goal(t *testing.T, s string) api.Goal {
	t.Helper()
	g, e := names.ParseGoal(s)
	if e != api.OK {
		t.Fatal(s, e)
	}
	return g
}

func check(t *testing.T, g, u string) api.Query {
	return api.Query{Kind: api.Check, Goal: goal(t, g), User: api.Object{Space: "user", ID: u}}
}

// meter returns a meter of the query that costs 19.
func meter(t *testing.T, w refs.World, quantum, budget int) Meter {
	t.Helper()
	m, e := New(w, check(t, "doc:x#viewer", "a"), quantum, budget)
	if e != api.OK {
		t.Fatal(e)
	}
	return m
}

func TestP30_1NewCheck(t *testing.T) {
	w := world(t, facts)
	m := meter(t, w, 5, 19)
	if m.Quanta != 0 || m.T.Cost() != 0 || Check(w, m) != api.OK {
		t.Error(m)
	}
	q := check(t, "doc:x#viewer", "a")
	for i, x := range []struct {
		q               api.Query
		quantum, budget int
		e               api.Errno
	}{{api.Query{}, 0, 0, api.ErrKind}, {q, 0, 1, api.ErrArg}, {q, 1, 0, api.ErrArg}, {q, 65537, 1, api.ErrArg}, {q, 1, 1<<20 + 1, api.ErrArg}, {q, 65536, 1 << 20, 0}, {check(t, "doc:x#none", "a"), 0, 1, api.ErrName}} {
		if m, e := New(w, x.q, x.quantum, x.budget); e != x.e || e != api.OK && m.Quantum != 0 {
			t.Error(i, e)
		}
	}
	one, _ := Turn(w, m)
	for i, x := range []struct {
		change func(m *Meter)
		e      api.Errno
	}{
		{func(m *Meter) { m.T.Over = true; m.Quantum = 0 }, api.ErrState}, {func(m *Meter) { m.T.Query.Kind = 9 }, api.ErrKind}, {func(m *Meter) { m.Quantum = 0; m.Quanta = -1 }, api.ErrArg}, {func(m *Meter) { m.Budget = 0 }, api.ErrArg}, {func(m *Meter) { m.Budget = 4 }, api.ErrState}, {func(m *Meter) { m.Budget = 5 }, 0}, {func(m *Meter) { m.Quanta = 6 }, api.ErrState}, {func(m *Meter) { m.Quanta = 5 }, 0}, {func(m *Meter) { m.Quanta = -1 }, api.ErrState},
	} {
		m := one
		x.change(&m)
		if e := Check(w, m); e != x.e {
			t.Error(i, e)
		}
		y, e := Finish(w, m)
		if e != x.e || e != api.OK && (y.Quanta != m.Quanta || y.T.Cost() != m.T.Cost()) {
			t.Error(i, e)
		}
		if y, e := Turn(w, m); x.e != api.OK && (e != x.e || y.Quanta != m.Quanta || y.T.Cost() != m.T.Cost()) {
			t.Error(i, e)
		}
	}
	if Check(refs.World{}, m) != api.ErrNil {
		t.Error("the zero world")
	}
}

func TestP30_2TurnFinish(t *testing.T) {
	w := world(t, facts)
	m := meter(t, w, 5, 19)
	x, e := Turn(w, m)
	if e != api.OK || x.T.Cost() != 5 || Left(x) != 14 || x.Quanta != 1 || m.Quanta != 0 {
		t.Error(x.Quanta, e)
	}
	for budget, quanta := range map[int]int{19: 4, 18: 4, 15: 3, 16: 4, 1: 1, 1000: 4} {
		end, e := Finish(w, meter(t, w, 5, budget))
		if e != api.OK || end.Quanta != quanta || end.T.Cost() != min(19, budget) || !Ended(end) {
			t.Error(budget, end.Quanta, e)
		}
		if again, e := Finish(w, end); e != api.OK || again.Quanta != quanta {
			t.Error(e)
		}
		if len(end.T.Truth.Ranks) > 0 {
			same, _ := Turn(w, end)
			again, _ := Finish(w, end)
			if same.T.Truth.Ranks[0], again.T.Truth.Ranks[0] = -1, -1; end.T.Truth.Ranks[0] == -1 {
				t.Error("shared")
			}
		}
		if same, e := Turn(w, end); e != api.ErrState || same.Quanta != quanta {
			t.Error(e)
		}
	}
}

func TestP30_3EndedRanLeft(t *testing.T) {
	w := world(t, facts)
	for budget, want := range map[int][2]bool{19: {true, false}, 18: {true, true}} {
		m := meter(t, w, 5, budget)
		end, _ := Finish(w, m)
		if Ended(m) || Ran(m) || Left(m) != budget || Ended(end) != want[0] || Ran(end) != want[1] || Left(end) != 0 {
			t.Error(budget)
		}
	}
	odd := Meter{Budget: -1 << 63}
	odd.T.Search.Steps = 1
	if Left(odd) != 1<<63-1 || Ended(odd) || !Ended(Meter{}) || !Ran(Meter{}) {
		t.Error("other meters")
	}
}

func TestP30_4Answer(t *testing.T) {
	w := world(t, facts)
	for budget, want := range map[int]api.Errno{19: 0, 18: api.ErrBudget} {
		end, _ := Finish(w, meter(t, w, 5, budget))
		if yes, _, e := Answer(end); e != want || yes != (e == api.OK) {
			t.Error(budget, e)
		}
	}
	odd := Meter{Budget: 5}
	odd.T.Over = true
	_, _, e1 := Answer(meter(t, w, 5, 5))
	_, _, e2 := Answer(odd)
	if e1 != api.ErrState || e2 != api.ErrState {
		t.Error(e1, e2)
	}
}

func TestP30_5Most(t *testing.T) {
	for i, x := range []struct {
		quantum, budget, want int
		e                     api.Errno
	}{{5, 19, 4, 0}, {19, 5, 1, 0}, {0, 5, 0, api.ErrArg}, {5, 20, 4, 0}, {1, 1 << 20, 1 << 20, 0}, {1, 1<<20 + 1, 0, api.ErrArg}} {
		if n, e := Most(x.quantum, x.budget); n != x.want || e != x.e {
			t.Error(i, n, e)
		}
	}
}

func TestP30_6Consequences(t *testing.T) {
	r := rand.New(rand.NewSource(1))
	schema, _, _ := parsers.Parse(sample)
	for range 100 {
		w := world(t, random(r, 14))
		l := w.Set().List()
		q := api.Query{Kind: api.Expand, Goal: goal(t, "doc:a#viewer")}
		if r.Intn(2) == 0 {
			q = check(t, "doc:a#viewer", "a")
		}
		cost, _ := reaches.Cost(schema, l, q)
		quantum, budget := r.Intn(8)+1, r.Intn(2*cost)+1
		m, _ := New(w, q, quantum, budget)
		end, _ := Finish(w, m)
		for !Ended(m) {
			var e api.Errno
			if m, e = Turn(w, m); e != api.OK {
				t.Fatal(e)
			}
		}
		most, _ := Most(quantum, budget)
		want := (min(cost, budget) + quantum - 1) / quantum
		if m.Quanta != want || end.Quanta != want || end.T.Cost() != m.T.Cost() || want > most || Ran(end) != (cost > budget) {
			t.Fatal(m.Quanta, end.Quanta, want)
		}
		yes, users, e := Answer(end)
		wantYes, _ := models.Check(schema, l, q.Goal, api.Object{Space: "user", ID: "a"})
		wantUsers, _ := models.Expand(schema, l, q.Goal)
		if cost > budget && e != api.ErrBudget || cost <= budget && (e != api.OK || q.Kind == api.Check && yes != wantYes || q.Kind == api.Expand && !slices.Equal(users, wantUsers)) {
			t.Fatal("the answer", e)
		}
	}
}
