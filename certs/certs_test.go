package certs

import (
	"math/rand"
	"slices"
	"strings"
	"testing"

	"countersign/api"
	"countersign/goals"
	"countersign/models"
	"countersign/names"
	"countersign/parsers"
	"countersign/refs"
	"countersign/sets"
	"countersign/traverses"
	"countersign/tuples"
)

const sample = "namespace doc { relation parent: [folder]; relation owner: [user]; relation viewer: [user, group#member] = (this | owner | parent->viewer) - banned; relation banned: [user]; } namespace folder { relation viewer: [user]; } namespace group { relation member: [user, group#member]; } namespace user {}"

const facts = "doc:x#parent@folder:f doc:x#owner@user:a doc:x#viewer@group:g#member doc:x#viewer@user:b"

// world returns the world of the schema and some tuples.
func world(t *testing.T, facts string) refs.World {
	t.Helper()
	var l []api.Tuple
	for _, s := range strings.Fields(facts) {
		x, e := tuples.Parse(s)
		if e != api.OK {
			t.Fatal(s, e)
		}
		l = append(l, x)
	}
	set, _ := sets.Of(l)
	s, _, _ := parsers.Parse(sample)
	w, e := refs.New(s, set)
	if e != api.OK {
		t.Fatal(e)
	}
	return w
}

// random returns tuples that fit.
func random(r *rand.Rand, n int) string {
	all := []string{"doc:A#parent@folder:B", "doc:A#owner@user:B", "doc:A#viewer@user:B", "doc:A#viewer@group:B#member", "doc:A#banned@user:B", "folder:A#viewer@user:B", "group:A#member@user:B", "group:A#member@group:B#member"}
	var out []string
	for range n {
		out = append(out, strings.NewReplacer("A", string(rune('a'+r.Intn(3))), "B", string(rune('a'+r.Intn(3)))).Replace(all[r.Intn(len(all))]))
	}
	return strings.Join(out, " ")
}

func goal(t *testing.T, s string) api.Goal {
	t.Helper()
	g, e := names.ParseGoal(s)
	if e != api.OK {
		t.Fatal(s, e)
	}
	return g
}

func check(t *testing.T, g, u string) api.Query {
	return api.Query{Kind: api.Check, Goal: goal(t, g), User: api.Object{Space: "user", ID: u}}
}

func cert(t *testing.T, w refs.World, q api.Query) Cert {
	t.Helper()
	c, e := Of(w, q)
	if e != api.OK {
		t.Fatal(e)
	}
	return c
}

func clone(c Cert) Cert { return Cert{c.User, slices.Clone(c.Lines)} }

func ranks(c Cert) (out []int) {
	for _, x := range c.Lines {
		out = append(out, x.Rank)
	}
	return out
}

func TestP32_1Of(t *testing.T) {
	w := world(t, facts)
	c := cert(t, w, check(t, "doc:x#viewer", "a"))
	want := []Line{{goal(t, "doc:x#viewer"), true, 9}, {goal(t, "group:g#member"), false, 0}, {goal(t, "doc:x#owner"), true, 2}, {goal(t, "folder:f#viewer"), false, 0}, {goal(t, "doc:x#banned"), false, 0}}
	if !slices.Equal(c.Lines, want) || c.User.ID != "a" || cap(c.Lines) != 5 {
		t.Error(c)
	}
	for i, x := range []struct {
		w refs.World
		q api.Query
		e api.Errno
	}{{w, api.Query{Kind: api.Expand, Goal: goal(t, "doc:x#viewer")}, api.ErrArg}, {w, api.Query{Kind: api.Expand}, api.ErrName}, {w, api.Query{}, api.ErrKind}, {refs.World{}, api.Query{}, api.ErrNil}} {
		if c, e := Of(x.w, x.q); e != x.e || len(c.Lines) != 0 {
			t.Error(i, e)
		}
		if at, e := Holds(x.w, x.q, Cert{}); e != x.e || at != 0 {
			t.Error(i, e)
		}
	}
}

func TestP32_2Holds(t *testing.T) {
	w := world(t, facts)
	q := check(t, "doc:x#viewer", "a")
	good := cert(t, w, q)
	for i, x := range []struct {
		change func(c *Cert)
		at     int
		e      api.Errno
	}{
		{func(c *Cert) {}, 0, 0}, {func(c *Cert) { c.Lines[0].Rank = 1 }, 0, 0}, {func(c *Cert) { c.Lines[0].Yes, c.Lines[0].Rank = false, 0 }, 0, api.ErrFalse}, {func(c *Cert) { c.Lines = c.Lines[:4] }, 0, api.ErrNone}, {func(c *Cert) { c.Lines = nil }, 0, api.ErrLimit}, {func(c *Cert) { c.Lines = make([]Line, goals.MaxGoals+1) }, 0, api.ErrLimit},
		{func(c *Cert) { c.Lines[3].Goal.Rel = "none" }, 3, api.ErrName}, {func(c *Cert) { c.Lines[3] = c.Lines[1]; c.Lines[4].Goal.Rel = "none" }, 3, api.ErrTwice}, {func(c *Cert) { c.User.ID = "b" }, 0, api.ErrState}, {func(c *Cert) { c.Lines[0], c.Lines[1] = c.Lines[1], c.Lines[0] }, 0, api.ErrState},
		{func(c *Cert) { c.Lines[2].Rank = 0 }, 2, api.ErrArg}, {func(c *Cert) { c.Lines[3].Rank = 1 }, 3, api.ErrArg}, {func(c *Cert) { c.Lines[3].Rank = -1 }, 3, api.ErrArg}, {func(c *Cert) { c.Lines[3].Yes, c.Lines[3].Rank = true, 1 }, 3, api.ErrFalse}, {func(c *Cert) { c.Lines[0].Rank = -1; c.Lines = c.Lines[:4] }, 0, api.ErrNone}, {func(c *Cert) { c.Lines[2].Yes, c.Lines[2].Rank = false, 0 }, 0, api.ErrFalse},
		{func(c *Cert) { c.Lines = append(c.Lines, Line{Goal: goal(t, "doc:q#viewer")}) }, 5, api.ErrNone},
	} {
		c := clone(good)
		x.change(&c)
		if at, e := Holds(w, q, c); at != x.at || e != x.e {
			t.Error(i, at, e)
		}
	}
	one := check(t, "doc:x#owner", "a")
	if at, e := Holds(w, one, cert(t, w, one)); at != 0 || e != api.OK || len(cert(t, w, one).Lines) != 1 {
		t.Error("a certificate with one line", at, e)
	}
	if at, e := Holds(w, one, Cert{Lines: make([]Line, goals.MaxGoals)}); at != 0 || e != api.ErrName {
		t.Error("the most lines", at, e)
	}
	w = world(t, "group:g#member@group:h#member group:h#member@group:g#member")
	loop := Cert{api.Object{Space: "user", ID: "a"}, []Line{{goal(t, "group:g#member"), true, 1}, {goal(t, "group:h#member"), true, 2}}}
	if at, e := Holds(w, check(t, "group:g#member", "a"), loop); at != 0 || e != api.ErrFalse {
		t.Error("reasons that go round", at, e)
	}
}

func TestP32_3Answer(t *testing.T) {
	w := world(t, facts)
	for u, want := range map[string]bool{"a": true, "c": false} {
		if yes, e := Answer(cert(t, w, check(t, "doc:x#viewer", u))); yes != want || e != api.OK {
			t.Error(u, yes, e)
		}
	}
	if yes, e := Answer(Cert{}); yes || e != api.ErrState {
		t.Error(e)
	}
}

func TestP32_4Short(t *testing.T) {
	w := world(t, facts)
	q := check(t, "doc:x#viewer", "a")
	c := cert(t, w, q)
	s, e := Short(w, c)
	if e != api.OK || !slices.Equal(ranks(s), []int{2, 0, 1, 0, 0}) || cap(s.Lines) != 5 || c.Lines[0].Rank != 9 {
		t.Error(s, e)
	}
	more := clone(c)
	more.Lines = slices.Insert(more.Lines, 1, Line{goal(t, "doc:q#owner"), false, 0}, Line{goal(t, "folder:q#viewer"), false, 0})
	if m, e := Short(w, more); e != api.OK || !Same(m, s) {
		t.Error(m, e)
	}
	equal := clone(c)
	equal.Lines[0].Rank, equal.Lines[2].Rank = 7, 7
	if m, e := Short(w, equal); e != api.OK || !slices.Equal(ranks(m), []int{1, 0, 1, 0, 0}) {
		t.Error(m, e)
	}
	bad := clone(c)
	bad.Lines[4].Rank = 1
	odd := clone(c)
	odd.User.ID = "A"
	for i, x := range []struct {
		w refs.World
		c Cert
		e api.Errno
	}{{refs.World{}, Cert{}, api.ErrNil}, {w, Cert{}, api.ErrLimit}, {w, bad, api.ErrArg}, {w, odd, api.ErrName}, {w, Cert{c.User, c.Lines[:2]}, api.ErrNone}} {
		if s, e := Short(x.w, x.c); e != x.e || len(s.Lines) != 0 {
			t.Error(i, e)
		}
	}
}

func TestP32_5Same(t *testing.T) {
	c := cert(t, world(t, facts), check(t, "doc:x#viewer", "a"))
	for i, change := range []func(c *Cert){func(c *Cert) { c.User.ID = "b" }, func(c *Cert) { c.Lines[1].Goal.Rel = "x" }, func(c *Cert) { c.Lines[1].Yes = true }, func(c *Cert) { c.Lines[1].Rank = 1 }, func(c *Cert) { c.Lines = c.Lines[:4] }} {
		d := clone(c)
		if !Same(c, d) {
			t.Error(i)
		}
		if change(&d); Same(c, d) {
			t.Error(i)
		}
	}
	if !Same(Cert{}, Cert{Lines: []Line{}}) {
		t.Error("no lines")
	}
}

func TestP32_6Consequences(t *testing.T) {
	r := rand.New(rand.NewSource(1))
	schema, _, _ := parsers.Parse(sample)
	for range 150 {
		w := world(t, random(r, 14))
		q := check(t, "doc:a#viewer", "a")
		c := cert(t, w, q)
		yes, _, _, _ := traverses.Ask(w, q)
		if got, _ := Answer(c); got != yes {
			t.Fatal("the answer")
		}
		if at, e := Holds(w, q, c); at != 0 || e != api.OK {
			t.Fatal(at, e)
		}
		s, _ := Short(w, c)
		if at, e := Holds(w, q, s); at != 0 || e != api.OK {
			t.Fatal(at, e)
		}
		model, _ := models.Of(schema, w.Set().List())
		for i, x := range s.Lines {
			if want, _ := model.Has(x.Goal, q.User); want != x.Yes {
				t.Fatal("the model")
			}
			for _, rank := range []int{0, 1, 5, 1000} {
				d := clone(s)
				d.Lines[i].Yes, d.Lines[i].Rank = !x.Yes, rank
				if _, e := Holds(w, q, d); e == api.OK {
					t.Fatal("a line that was turned")
				}
			}
		}
	}
}
