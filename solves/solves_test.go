package solves

import (
	"fmt"
	"math/rand"
	"slices"
	"strings"
	"testing"

	"countersign/api"
	"countersign/explores"
	"countersign/goals"
	"countersign/models"
	"countersign/names"
	"countersign/parsers"
	"countersign/refs"
	"countersign/sets"
	"countersign/tuples"
)

// equal reports whether two values are equal; lists that are nil and empty are.
func equal(a, b any) bool { return fmt.Sprint(a) == fmt.Sprint(b) }

const sample = "namespace doc { relation parent: [folder]; relation owner: [user]; relation viewer: [user, group#member] = (this | owner | parent->viewer) - banned; relation banned: [user]; } namespace folder { relation viewer: [user]; } namespace group { relation member: [user, group#member]; } namespace user {}"

const facts = "doc:x#parent@folder:f doc:x#owner@user:a doc:x#viewer@group:g#member doc:x#viewer@user:b"

// world returns the world of the schema and some tuples.
func world(t *testing.T, facts string) refs.World {
	t.Helper()
	var l []api.Tuple
	for _, s := range strings.Fields(facts) {
		x, e := tuples.Parse(s)
		if e != api.OK {
			t.Fatal(s, e)
		}
		l = append(l, x)
	}
	set, _ := sets.Of(l)
	s, _, _ := parsers.Parse(sample)
	w, e := refs.New(s, set)
	if e != api.OK {
		t.Fatal(e)
	}
	return w
}

// random returns tuples that fit.
func random(r *rand.Rand, n int) string {
	all := []string{"doc:A#parent@folder:B", "doc:A#owner@user:B", "doc:A#viewer@user:B", "doc:A#viewer@group:B#member", "doc:A#banned@user:B", "folder:A#viewer@user:B", "group:A#member@user:B", "group:A#member@group:B#member"}
	var out []string
	for range n {
		out = append(out, strings.NewReplacer("A", string(rune('a'+r.Intn(3))), "B", string(rune('a'+r.Intn(3)))).Replace(all[r.Intn(len(all))]))
	}
	return strings.Join(out, " ")
}

func goal(t *testing.T, s string) api.Goal {
	t.Helper()
	g, e := names.ParseGoal(s)
	if e != api.OK {
		t.Fatal(s, e)
	}
	return g
}

func table(t *testing.T, w refs.World, g string) goals.Table {
	t.Helper()
	l, e := explores.Goals(w, goal(t, g))
	if e != api.OK {
		t.Fatal(e)
	}
	x, _ := goals.Of(l)
	return x
}

func truths(l []bool) string {
	out := ""
	for _, x := range l {
		if x {
			out += "T"
		} else {
			out += "F"
		}
	}
	return out
}

func user(id string) Truth { return Truth{api.Object{Space: "user", ID: id}} }

// same reports whether two states are equal, apart from their tables.
func same(a, b State[bool]) bool {
	a.Table, b.Table = goals.Table{}, goals.Table{}
	return equal(a, b)
}

// twin returns an equal state with lists of its own.
func twin(s State[bool]) State[bool] {
	s.Values, s.Ranks = slices.Clone(s.Values), slices.Clone(s.Ranks)
	return s
}

func TestP26_1LevelsNewCheck(t *testing.T) {
	w := world(t, facts)
	x := table(t, w, "doc:x#viewer")
	if l, e := Levels(w, x); e != api.OK || !equal(l, [][]int{{1, 2, 3, 4}, {0}}) {
		t.Error(l, e)
	}
	if l, e := Levels(w, table(t, w, "doc:x#owner")); e != api.OK || !equal(l, [][]int{{0}}) || cap(l) != 1 {
		t.Error("strata without goals", l, e)
	}
	s, e := New[bool](w, x)
	if e != api.OK || len(s.Values) != 5 || len(s.Ranks) != 5 || s.Level != 0 || Check(w, s) != api.OK {
		t.Error(s, e)
	}
	open, _ := goals.Of(x.From(0)[:4])
	strange, _ := goals.Of([]api.Goal{goal(t, "doc:x#owner"), goal(t, "doc:x#none")})
	for i, bad := range []goals.Table{{}, open, strange} {
		_, e1 := Levels(w, bad)
		_, e2 := New[int](w, bad)
		_, _, e3 := Truths(w, bad, api.Object{})
		_, e4 := Levels(refs.World{}, bad)
		_, e5 := New[int](refs.World{}, bad)
		if e1 != api.ErrState || e2 != api.ErrState || e3 != api.ErrState || e4 != api.ErrNil || e5 != api.ErrNil || Check(w, State[bool]{Table: bad}) != api.ErrState {
			t.Error(i, e1, e2, e3, e4, e5)
		}
	}
	if Check(refs.World{}, s) != api.ErrNil {
		t.Error("the zero world")
	}
	for i, c := range []struct {
		change func(s *State[bool])
		e      api.Errno
	}{
		{func(s *State[bool]) { s.Values = s.Values[:4] }, api.ErrState}, {func(s *State[bool]) { s.Ranks = append(s.Ranks, 0) }, api.ErrState}, {func(s *State[bool]) { s.Level = 3 }, api.ErrState}, {func(s *State[bool]) { s.Level = -1 }, api.ErrState}, {func(s *State[bool]) { s.Level = 2 }, 0},
		{func(s *State[bool]) { s.Level, s.Changed = 2, true }, api.ErrState}, {func(s *State[bool]) { s.Level, s.At = 2, 1 }, api.ErrState}, {func(s *State[bool]) { s.At = 4 }, api.ErrState}, {func(s *State[bool]) { s.At, s.Changed = 3, true }, 0}, {func(s *State[bool]) { s.At = -1 }, api.ErrState},
		{func(s *State[bool]) { s.Level, s.At = 1, 1 }, api.ErrState}, {func(s *State[bool]) { s.Steps = -1 }, api.ErrState}, {func(s *State[bool]) { s.Steps = 1<<62 + 1 }, api.ErrState}, {func(s *State[bool]) { s.Steps = 1 << 62 }, 0}, {func(s *State[bool]) { s.Ranks[1] = 1 }, api.ErrState}, {func(s *State[bool]) { s.Ranks[1], s.Steps = 1, 1 }, 0}, {func(s *State[bool]) { s.Ranks[1] = -1 }, api.ErrState},
	} {
		x := twin(s)
		c.change(&x)
		if e := Check(w, x); e != c.e {
			t.Error(i, e)
		}
		if y, n, e := Step[bool](user("a"), w, x, 1); e != c.e || e != api.OK && (n != 0 || !same(x, y)) {
			t.Error(i, n, e)
		}
		if Done(w, x) != (c.e == api.OK && x.Level == 2) {
			t.Error(i, "Done")
		}
	}
}

func TestP26_2StepDone(t *testing.T) {
	w := world(t, facts)
	s, _ := New[bool](w, table(t, w, "doc:x#viewer"))
	x, n, e := Step[bool](user("a"), w, s, 4)
	if e != api.OK || n != 4 || x.At != 0 || x.Level != 0 || x.Changed || x.Steps != 4 || s.Steps != 0 || s.Values[2] {
		t.Error(x, n, e)
	}
	x, n, e = Step[bool](user("a"), w, x, 100)
	if e != api.OK || n != 6 || !Done(w, x) || !slices.Equal(x.Ranks, []int{9, 0, 2, 0, 0}) || cap(x.Ranks) != 5 || cap(x.Values) != 5 {
		t.Error(x, n, e)
	}
	if y, n, e := Step[bool](user("a"), w, x, 5); n != 0 || e != api.OK || !same(x, y) {
		t.Error("a state that is done")
	}
	y, n, e := Step[bool](user("a"), w, s, -1)
	if y.Values[0] = true; e != api.ErrArg || n != 0 || s.Values[0] {
		t.Error(e)
	}
	if _, n, e := Step[bool](nil, w, s, 1); e != api.ErrNil || n != 0 {
		t.Error(e)
	}
	if _, _, e := Step[bool](nil, w, State[bool]{}, 1); e != api.ErrState {
		t.Error(e)
	}
	if _, _, e := Step[bool](nil, refs.World{}, State[bool]{}, -1); e != api.ErrArg {
		t.Error(e)
	}
	if Done(refs.World{}, x) || Done(w, State[bool]{}) {
		t.Error("Done")
	}
	if _, n, e := Step[int](broken{}, w, State[int]{Table: s.Table, Values: make([]int, 5), Ranks: make([]int, 5)}, 9); e != api.ErrMust || n != 0 {
		t.Error(e)
	}
}

// broken is a domain whose values cannot be made from the third step on.
type broken struct{}

func (broken) Make(w refs.World, g api.Goal, l []int) (int, api.Errno) {
	if g.Object.Space == "folder" {
		return 0, api.ErrMust
	}
	return 1, api.OK
}

func (broken) Same(a, b int) bool { return a == b }

func TestP26_3MakeSame(t *testing.T) {
	w, d := world(t, facts), user("a")
	g := goal(t, "doc:x#viewer")
	if v, e := d.Make(w, g, []bool{false, true, false, false}); !v || e != api.OK {
		t.Error(v, e)
	}
	_, e1 := d.Make(w, g, nil)
	_, e2 := d.Make(w, goal(t, "doc:x#none"), nil)
	_, e3 := d.Make(refs.World{}, g, nil)
	if e1 != api.ErrRange || e2 != api.ErrName || e3 != api.ErrNil || !d.Same(true, true) || d.Same(true, false) {
		t.Error(e1, e2, e3)
	}
}

func TestP26_4Truths(t *testing.T) {
	w := world(t, facts)
	x := table(t, w, "doc:x#viewer")
	for id, want := range map[string]string{"a": "TFTFF 10", "b": "TFFFF 6", "c": "FFFFF 5", "A": "FFFFF 5"} {
		v, n, e := Truths(w, x, api.Object{Space: "user", ID: id})
		if s := truths(v); e != api.OK || s != want[:5] || n != map[string]int{"a": 10, "b": 6, "c": 5, "A": 5}[id] || cap(v) != 5 {
			t.Error(id, s, n, e)
		}
	}
	if v, n, e := Truths(refs.World{}, x, api.Object{}); e != api.ErrNil || len(v) != 0 || n != 0 {
		t.Error(e)
	}
}

func TestP26_5Consequences(t *testing.T) {
	r := rand.New(rand.NewSource(1))
	schema, _, _ := parsers.Parse(sample)
	for range 200 {
		w := world(t, random(r, 14))
		x := table(t, w, "doc:a#viewer")
		d := user("a")
		s, _ := New[bool](w, x)
		end, steps, _ := Step[bool](d, w, s, 1<<40)
		for !Done(w, s) {
			k := r.Intn(4)
			y, n, e := Step[bool](d, w, s, k)
			if e != api.OK || n > k || n < k && !Done(w, y) {
				t.Fatal(n, e)
			}
			for i := range s.Values {
				if s.Values[i] && !y.Values[i] {
					t.Fatal("a value that became true")
				}
			}
			s = y
		}
		if !same(s, end) || s.Steps != steps {
			t.Fatal("portions")
		}
		levels, _ := Levels(w, x)
		bound := 0
		for _, level := range levels {
			bound += len(level) * (len(level) + 1)
		}
		if steps > bound {
			t.Fatal("passes")
		}
		model, _ := models.Of(schema, w.Set().List())
		for i, g := range x.From(0) {
			if want, _ := model.Has(g, d.User); want != s.Values[i] || want != (s.Ranks[i] > 0) {
				t.Fatal("the model")
			}
			l, _ := w.Refs(g)
			own, _ := w.Stratum(g)
			ranked := make([]bool, len(l))
			for n, ref := range l {
				at, _ := x.Find(ref)
				stratum, _ := w.Stratum(ref)
				ranked[n] = s.Values[at] && (stratum < own || s.Ranks[at] < s.Ranks[i])
			}
			if holds, _ := w.Holds(g, d.User, ranked); s.Values[i] && !holds {
				t.Fatal("ranks")
			}
		}
	}
}
