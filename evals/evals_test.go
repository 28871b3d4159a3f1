package evals

import (
	"fmt"
	"math/rand"
	"slices"
	"strings"
	"testing"

	"countersign/api"
	"countersign/certs"
	"countersign/models"
	"countersign/names"
	"countersign/parsers"
	"countersign/reaches"
	"countersign/stores"
	"countersign/tuples"
)

// equal reports whether two values are equal; lists that are nil and empty are.
func equal(a, b any) bool { return fmt.Sprint(a) == fmt.Sprint(b) }

const sample = "namespace doc { relation parent: [folder]; relation owner: [user]; relation viewer: [user, group#member] = (this | owner | parent->viewer) - banned; relation banned: [user]; } namespace folder { relation viewer: [user]; } namespace group { relation member: [user, group#member]; } namespace user {}"

const facts = "doc:x#parent@folder:f doc:x#owner@user:a doc:x#viewer@group:g#member doc:x#viewer@user:b"

func changes(t *testing.T, texts string) (out []api.Change) {
	t.Helper()
	for _, s := range strings.Fields(texts) {
		x, e := tuples.Parse(s)
		if e != api.OK {
			t.Fatal(s, e)
		}
		out = append(out, api.Change{Tuple: x})
	}
	return out
}

func schema() api.Schema {
	s, _, _ := parsers.Parse(sample)
	return s
}

// eval returns an eval of a store with the revisions 1 (empty), 2 (facts) and 3 (and user:a is banned).
func eval(t *testing.T) (*Eval, *stores.Store) {
	t.Helper()
	st := stores.New()
	st.Write(nil, changes(t, facts))
	st.Write(nil, changes(t, "doc:x#banned@user:a"))
	v, e := New(schema(), st)
	if e != api.OK {
		t.Fatal(e)
	}
	return v, st
}

func goal(t *testing.T, s string) api.Goal {
	t.Helper()
	g, e := names.ParseGoal(s)
	if e != api.OK {
		t.Fatal(s, e)
	}
	return g
}

func check(t *testing.T, g, u string) api.Query {
	return api.Query{Kind: api.Check, Goal: goal(t, g), User: api.Object{Space: "user", ID: u}}
}

func expand(t *testing.T, g string) api.Query {
	return api.Query{Kind: api.Expand, Goal: goal(t, g)}
}

func TestP33_1NewWorld(t *testing.T) {
	bad, _, _ := parsers.Parse("namespace a { relation b: [a] = this - b; }")
	for i, x := range []struct {
		s  api.Schema
		st *stores.Store
		e  api.Errno
	}{{bad, nil, api.ErrNil}, {bad, &stores.Store{}, api.ErrNil}, {bad, stores.New(), api.ErrStrata}} {
		if v, e := New(x.s, x.st); e != x.e || v != nil {
			t.Error(i, e)
		}
	}
	s := schema()
	st := stores.New()
	v, _ := New(s, st)
	s.Spaces[0].Relations[2].Rule.Args[0].Args[1].Rel, s.Spaces[0].Relations[0].Types[0].Space = "x", "x"
	if w, at, e := v.World(0); e != api.OK || at != 1 || w.Tables().Many() != 6 {
		t.Error("the schema was kept", e)
	}
	v, st = eval(t)
	for rev, n := range map[uint64]int{0: 5, 1: 0, 2: 4, 3: 5} {
		if w, at, e := v.World(rev); e != api.OK || w.Set().Len() != n || at != max(rev, 3*(1-min(rev, 1))) {
			t.Error(rev, at, e)
		}
	}
	if _, at, e := v.World(4); e != api.ErrRevision || at != 0 {
		t.Error(e)
	}
	st.Write(nil, changes(t, "doc:x#owner@folder:f"))
	if _, at, e := v.World(0); e != api.ErrType || at != 0 {
		t.Error(e)
	}
	for range 40 {
		rev, _ := st.Write(nil, nil)
		v.World(rev - 3)
	}
	st.Collect(1)
	if _, _, e := v.World(2); e != api.ErrRevision {
		t.Error("a revision that is gone", e)
	}
	for _, none := range []*Eval{nil, {}} {
		_, at, e1 := none.World(0)
		if at != 0 {
			t.Error(at)
		}
		_, e2 := none.Ask(0, api.Query{}, 0)
		_, _, e3 := none.Batch(0, nil, 0, 0)
		_, e4 := none.Why(0, api.Query{})
		_, e5 := none.Differ(0, 0, nil)
		if e1 != api.ErrNil || e2 != api.ErrNil || e3 != api.ErrNil || e4 != api.ErrNil || e5 != api.ErrNil {
			t.Error("no eval")
		}
	}
}

func TestP33_2Ask(t *testing.T) {
	v, _ := eval(t)
	q := check(t, "doc:x#viewer", "a")
	for i, x := range []struct {
		rev    uint64
		q      api.Query
		budget int
		want   Result
		e      api.Errno
	}{
		{2, q, 100, Result{2, true, nil, 19, 0}, 0}, {2, q, 19, Result{2, true, nil, 19, 0}, 0}, {2, q, 18, Result{2, false, nil, 18, api.ErrBudget}, 0}, {4, api.Query{}, 0, Result{}, api.ErrRevision}, {2, api.Query{}, 0, Result{}, api.ErrKind}, {2, q, 0, Result{}, api.ErrArg}, {2, q, 1<<20 + 1, Result{}, api.ErrArg},
	} {
		if got, e := v.Ask(x.rev, x.q, x.budget); e != x.e || !equal(got, x.want) {
			t.Error(i, got, e)
		}
	}
	if r, _ := v.Ask(0, q, 100); r.Rev != 3 || r.Yes {
		t.Error(r)
	}
	if r, _ := v.Ask(1, q, 100); r.Rev != 1 || r.Yes {
		t.Error(r)
	}
	if r, _ := v.Ask(2, expand(t, "doc:x#viewer"), 100); len(r.Users) != 2 || cap(r.Users) != 2 {
		t.Error(r)
	}
}

func TestP33_3Batch(t *testing.T) {
	v, _ := eval(t)
	a, b := check(t, "doc:x#viewer", "a"), expand(t, "doc:x#viewer")
	l, at, e := v.Batch(2, []api.Query{a, b, a, b}, 3, 100)
	if e != api.OK || at != 0 || len(l) != 4 || !l[2].Yes || len(l[3].Users) != 2 || !equal(l[0], l[2]) || cap(l) != 4 {
		t.Error(l, e)
	}
	if l[1].Users[0].ID = "q"; l[3].Users[0].ID != "a" {
		t.Error("shared")
	}
	for i, x := range []struct {
		rev     uint64
		l       []api.Query
		quantum int
		at      int
		e       api.Errno
	}{{4, nil, 0, 0, api.ErrRevision}, {2, nil, 0, 0, api.ErrLimit}, {2, make([]api.Query, 65), 1, 0, api.ErrLimit}, {2, []api.Query{a, a, b, {}, a}, 1, 3, api.ErrKind}, {2, []api.Query{a, {}}, 0, 0, api.ErrArg}} {
		if l, at, e := v.Batch(x.rev, x.l, x.quantum, 100); e != x.e || at != x.at || len(l) != 0 {
			t.Error(i, at, e)
		}
	}
	if l, _, e := v.Batch(2, []api.Query{a}, 1, 100); e != api.OK || len(l) != 1 || !l[0].Yes {
		t.Error(e)
	}
	many := slices.Repeat([]api.Query{a}, 64)
	if l, _, e := v.Batch(0, many, 1, 5); e != api.OK || len(l) != 64 || l[63].E != api.ErrBudget || l[63].Cost != 5 || l[0].Rev != 3 {
		t.Error(e)
	}
}

func TestP33_4Why(t *testing.T) {
	v, _ := eval(t)
	q := check(t, "doc:x#viewer", "a")
	c, e := v.Why(2, q)
	if yes, _ := certs.Answer(c); e != api.OK || !yes {
		t.Error(e)
	}
	_, e1 := v.Why(4, api.Query{})
	_, e2 := v.Why(2, api.Query{})
	_, e3 := v.Why(2, expand(t, "doc:x#viewer"))
	if e1 != api.ErrRevision || e2 != api.ErrKind || e3 != api.ErrArg {
		t.Error(e1, e2, e3)
	}
}

func TestP33_5Differ(t *testing.T) {
	v, _ := eval(t)
	a, b, c := check(t, "doc:x#viewer", "a"), check(t, "doc:x#viewer", "b"), expand(t, "doc:x#viewer")
	if l, e := v.Differ(2, 3, []api.Query{a, b, c}); e != api.OK || !slices.Equal(l, []int{0, 2}) || cap(l) != 2 {
		t.Error(l, e)
	}
	if l, e := v.Differ(2, 2, []api.Query{a, b, c}); e != api.OK || len(l) != 0 {
		t.Error(l, e)
	}
	_, e1 := v.Differ(9, 2, []api.Query{{}})
	_, e2 := v.Differ(2, 9, []api.Query{{}})
	_, e3 := v.Differ(1, 2, []api.Query{a, {}, check(t, "doc:x#none", "a")})
	if e1 != api.ErrRevision || e2 != api.ErrRevision || e3 != api.ErrKind {
		t.Error(e1, e2, e3)
	}
}

func TestP33_6Consequences(t *testing.T) {
	r := rand.New(rand.NewSource(1))
	v, st := eval(t)
	all := strings.Fields("doc:a#parent@folder:b doc:a#owner@user:b doc:x#banned@user:b doc:x#viewer@group:h#member group:h#member@user:c group:g#member@group:h#member folder:f#viewer@user:d")
	queries := []api.Query{check(t, "doc:x#viewer", "a"), check(t, "doc:x#viewer", "c"), expand(t, "doc:x#viewer"), expand(t, "group:g#member")}
	type key struct {
		rev uint64
		n   int
	}
	seen := map[key]Result{}
	for range 30 {
		st.Write(nil, []api.Change{{Tuple: changes(t, all[r.Intn(len(all))])[0].Tuple, Drop: r.Intn(2) == 0}})
		for _, rev := range st.Kept() {
			batch, _, _ := v.Batch(rev, queries, 4, 25)
			set, _ := st.At(rev)
			for n, q := range queries {
				x, e := v.Ask(rev, q, 25)
				if before, found := seen[key{rev, n}]; e != api.OK || found && !equal(x, before) || !equal(x, batch[n]) {
					t.Fatal(x, batch[n], e)
				}
				seen[key{rev, n}] = x
				cost, _ := reaches.Cost(schema(), set.List(), q)
				if (x.E == api.ErrBudget) != (cost > 25) {
					t.Fatal("the budget")
				}
				if q.Kind == api.Check {
					yes, _ := models.Check(schema(), set.List(), q.Goal, q.User)
					c, _ := v.Why(rev, q)
					w, _, _ := v.World(rev)
					if _, e := certs.Holds(w, q, c); e != api.OK || x.E == api.OK && yes != x.Yes {
						t.Fatal("the answer")
					}
				} else if users, _ := models.Expand(schema(), set.List(), q.Goal); x.E == api.OK && !slices.Equal(users, x.Users) {
					t.Fatal("the answer")
				}
			}
		}
	}
}
