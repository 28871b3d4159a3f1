package mixes

import (
	"fmt"
	"math"
	"math/rand"
	"slices"
	"strings"
	"testing"

	"countersign/api"
	"countersign/meters"
	"countersign/names"
	"countersign/parsers"
	"countersign/refs"
	"countersign/sets"
	"countersign/tuples"
)

// equal reports whether two values are equal; lists that are nil and empty are.
func equal(a, b any) bool { return fmt.Sprint(a) == fmt.Sprint(b) }

const sample = "namespace doc { relation parent: [folder]; relation owner: [user]; relation viewer: [user, group#member] = (this | owner | parent->viewer) - banned; relation banned: [user]; } namespace folder { relation viewer: [user]; } namespace group { relation member: [user, group#member]; } namespace user {}"

const facts = "doc:x#parent@folder:f doc:x#owner@user:a doc:x#viewer@group:g#member doc:x#viewer@user:b"

// world returns the world of the schema and some tuples.
func world(t *testing.T, facts string) refs.World {
	t.Helper()
	var l []api.Tuple
	for _, s := range strings.Fields(facts) {
		x, e := tuples.Parse(s)
		if e != api.OK {
			t.Fatal(s, e)
		}
		l = append(l, x)
	}
	set, _ := sets.Of(l)
	s, _, _ := parsers.Parse(sample)
	w, e := refs.New(s, set)
	if e != api.OK {
		t.Fatal(e)
	}
	return w
}

// random returns tuples that fit.
func random(r *rand.Rand, n int) string {
	all := []string{"doc:A#parent@folder:B", "doc:A#owner@user:B", "doc:A#viewer@user:B", "doc:A#viewer@group:B#member", "doc:A#banned@user:B", "folder:A#viewer@user:B", "group:A#member@user:B", "group:A#member@group:B#member"}
	var out []string
	for range n {
		out = append(out, strings.NewReplacer("A", string(rune('a'+r.Intn(3))), "B", string(rune('a'+r.Intn(3)))).Replace(all[r.Intn(len(all))]))
	}
	return strings.Join(out, " ")
}

func goal(t *testing.T, s string) api.Goal {
	t.Helper()
	g, e := names.ParseGoal(s)
	if e != api.OK {
		t.Fatal(s, e)
	}
	return g
}

func check(t *testing.T, g, u string) api.Query {
	return api.Query{Kind: api.Check, Goal: goal(t, g), User: api.Object{Space: "user", ID: u}}
}

// queries are those that cost 19, 15 and 14.
func queries(t *testing.T) []api.Query {
	return []api.Query{check(t, "doc:x#viewer", "a"), check(t, "doc:x#viewer", "b"), check(t, "doc:x#viewer", "c")}
}

func mix(t *testing.T, w refs.World) Mix {
	t.Helper()
	m, at, e := New(w, queries(t), 5, 15)
	if e != api.OK || at != 0 {
		t.Fatal(e)
	}
	return m
}

func costs(m Mix) (out []int) {
	for _, a := range Answers(m) {
		out = append(out, a.Cost)
	}
	return out
}

func TestP31_1NewCheck(t *testing.T) {
	w := world(t, facts)
	m := mix(t, w)
	if len(m.List) != 3 || len(m.Order) != 0 || Check(w, m) != api.OK {
		t.Error(m)
	}
	long := make([]api.Query, 65)
	l := queries(t)
	for i, x := range []struct {
		w       refs.World
		l       []api.Query
		quantum int
		at      int
		e       api.Errno
	}{{refs.World{}, nil, 5, 0, api.ErrNil}, {w, nil, 5, 0, api.ErrLimit}, {w, long, 5, 0, api.ErrLimit}, {w, append(l, long[0]), 5, 3, api.ErrKind}, {w, append(l, long[0]), 0, 0, api.ErrArg}, {w, long[:64], 5, 0, api.ErrKind}} {
		if m, at, e := New(x.w, x.l, x.quantum, 15); at != x.at || e != x.e || len(m.List) != 0 {
			t.Error(i, at, e)
		}
	}
	end, _, _ := Finish(w, m)
	for i, x := range []struct {
		m Mix
		e api.Errno
	}{
		{Mix{}, api.ErrLimit}, {Mix{List: m.List, Order: []int{0}}, api.ErrState}, {Mix{List: end.List}, api.ErrState}, {Mix{List: end.List, Order: []int{2, 0, 1}}, 0}, {Mix{List: end.List, Order: []int{2, 0, 0}}, api.ErrState}, {Mix{List: end.List, Order: []int{2, 0, 1, 1}}, api.ErrState}, {Mix{List: end.List, Order: []int{2, 0, 3}}, api.ErrState}, {Mix{List: end.List, Order: []int{2, 0, -1}}, api.ErrState},
		{Mix{List: append(m.List[:2:2], meters.Meter{})}, api.ErrKind}, {Mix{List: make([]meters.Meter, 65)}, api.ErrLimit},
	} {
		if e := Check(w, x.m); e != x.e {
			t.Error(i, e)
		}
		_, e1 := Turn(w, x.m, 9)
		_, n, e2 := Play(w, x.m, []int{9})
		_, rounds, e3 := Finish(w, x.m)
		if x.e != api.OK && (e1 != x.e || e2 != x.e || e3 != x.e || n != 0 || rounds != 0) {
			t.Error(i, e1, e2, e3)
		}
	}
	if Check(refs.World{}, Mix{}) != api.ErrNil {
		t.Error("the zero world")
	}
}

func TestP31_2TurnPlay(t *testing.T) {
	w := world(t, facts)
	m := mix(t, w)
	x, e := Turn(w, m, 1)
	if e != api.OK || !slices.Equal(costs(x), []int{0, 5, 0}) || !slices.Equal(costs(m), []int{0, 0, 0}) {
		t.Error(costs(x), e)
	}
	if x, e := Turn(w, m, 0); e != api.OK || !slices.Equal(costs(x), []int{5, 0, 0}) {
		t.Error(e)
	}
	done, _, _ := Finish(w, m)
	twin, _ := Turn(w, done, 0)
	if twin.List[1].T.Truth.Ranks[0], twin.Order[0] = -1, 9; done.List[1].T.Truth.Ranks[0] == -1 || done.Order[0] == 9 {
		t.Error("shared")
	}
	for _, i := range []int{-1, 3} {
		if x, e := Turn(w, m, i); e != api.ErrRange || len(x.List) != 3 {
			t.Error(e)
		}
	}
	x, n, e := Play(w, m, []int{2, 2, 2, 2, -1, 0})
	if e != api.OK || n != 4 || !slices.Equal(x.Order, []int{2}) || !slices.Equal(costs(x), []int{5, 0, 14}) || cap(x.Order) != 1 {
		t.Error(n, x.Order, costs(x), e)
	}
	if y, e := Turn(w, x, 2); e != api.ErrState || !slices.Equal(y.Order, x.Order) {
		t.Error(e)
	}
	if y, n, e := Play(w, m, []int{math.MinInt, math.MaxInt, 4}); e != api.OK || n != 3 || !slices.Equal(costs(y), []int{0, 15, 0}) || !slices.Equal(y.Order, []int{1}) {
		t.Error(n, costs(y), e)
	}
	if y, n, e := Play(w, m, nil); e != api.OK || n != 0 || !equal(costs(y), costs(m)) {
		t.Error(n, e)
	}
}

func TestP31_3FinishEnded(t *testing.T) {
	w := world(t, facts)
	m := mix(t, w)
	end, rounds, e := Finish(w, m)
	if e != api.OK || rounds != 3 || !slices.Equal(end.Order, []int{0, 1, 2}) || !Ended(end) || Ended(m) || !Ended(Mix{}) || Check(w, end) != api.OK {
		t.Error(rounds, end.Order, e)
	}
	if again, rounds, e := Finish(w, end); e != api.OK || rounds != 0 || !slices.Equal(again.Order, end.Order) {
		t.Error(rounds, e)
	}
	some, _, _ := Play(w, m, []int{2, 2, 2, 1, 1})
	end, rounds, _ = Finish(w, some)
	if rounds != 3 || !slices.Equal(end.Order, []int{2, 1, 0}) {
		t.Error(rounds, end.Order)
	}
}

func TestP31_4Answers(t *testing.T) {
	w := world(t, facts)
	end, _, _ := Finish(w, mix(t, w))
	want := []Answer{{false, nil, 15, api.ErrBudget}, {true, nil, 15, 0}, {false, nil, 14, 0}}
	if l := Answers(end); !equal(l, want) {
		t.Error(l)
	}
	if l := Answers(mix(t, w)); l[1].E != api.ErrState || len(Answers(Mix{})) != 0 {
		t.Error(l)
	}
}

func TestP31_5Consequences(t *testing.T) {
	r := rand.New(rand.NewSource(1))
	for range 60 {
		w := world(t, random(r, 14))
		var l []api.Query
		for range r.Intn(5) + 1 {
			g := goal(t, []string{"doc:a#viewer", "doc:b#viewer", "group:a#member", "folder:b#viewer"}[r.Intn(4)])
			if r.Intn(2) == 0 {
				l = append(l, api.Query{Kind: api.Expand, Goal: g})
			} else {
				l = append(l, api.Query{Kind: api.Check, Goal: g, User: api.Object{Space: "user", ID: "a"}})
			}
		}
		m, _, _ := New(w, l, r.Intn(6)+1, r.Intn(60)+1)
		rounds := 0
		x := m
		all := make([]int, len(l))
		for i := range all {
			all[i] = i
		}
		for ; !Ended(x); rounds++ {
			x, _, _ = Play(w, x, all)
		}
		y := m
		for !Ended(y) {
			y, _, _ = Play(w, y, []int{r.Int(), -r.Int()})
		}
		end, n, e := Finish(w, m)
		if e != api.OK || n != rounds || !slices.Equal(end.Order, x.Order) || !equal(Answers(end), Answers(x)) || !equal(Answers(end), Answers(y)) {
			t.Fatal(n, rounds, end.Order, x.Order)
		}
		for i, q := range l {
			alone, _ := meters.New(w, q, m.List[i].Quantum, m.List[i].Budget)
			alone, _ = meters.Finish(w, alone)
			if alone.Quanta != end.List[i].Quanta || alone.Quanta != y.List[i].Quanta || alone.T.Cost() != y.List[i].T.Cost() {
				t.Fatal("alone")
			}
			if i > 0 {
				a, b := end.Order[i-1], end.Order[i]
				if p, q := end.List[a].Quanta, end.List[b].Quanta; p > q || p == q && a > b {
					t.Fatal("order")
				}
			}
		}
	}
}
