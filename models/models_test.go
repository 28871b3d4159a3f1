package models

import (
	"math/rand"
	"slices"
	"strconv"
	"strings"
	"testing"

	"countersign/api"
	"countersign/fits"
	"countersign/names"
	"countersign/parsers"
	"countersign/tuples"
)

const sample = "namespace user {} namespace group { relation m: [user, group#m]; } namespace doc { relation p: [doc]; relation b: [group#m]; relation v: [user, group#m] = (this | p->v) - b; }"

const facts = "doc:a#p@doc:c doc:c#v@group:g#m group:g#m@user:x group:g#m@group:h#m group:h#m@user:y group:h#m@group:g#m doc:a#b@group:h#m doc:c#v@user:z"

func parsed(t *testing.T, text string) api.Schema {
	t.Helper()
	s, _, e := parsers.Parse(text)
	if e != api.OK {
		t.Fatal(text, e)
	}
	return s
}

func list(t *testing.T, texts string) []api.Tuple {
	t.Helper()
	var l []api.Tuple
	for _, s := range strings.Fields(texts) {
		x, e := tuples.Parse(s)
		if e != api.OK {
			t.Fatal(s, e)
		}
		l = append(l, x)
	}
	return l
}

func goal(t *testing.T, s string) api.Goal {
	t.Helper()
	g, e := names.ParseGoal(s)
	if e != api.OK {
		t.Fatal(s, e)
	}
	return g
}

func user(id string) api.Object { return api.Object{Space: "user", ID: id} }

func texts(l []api.Object) string {
	var out []string
	for _, o := range l {
		out = append(out, names.Text(o))
	}
	return strings.Join(out, " ")
}

func TestP21_1OfGoalsValues(t *testing.T) {
	s, l := parsed(t, sample), list(t, facts)
	m, e := Of(s, l)
	want, _ := fits.Goals(s, l)
	if e != api.OK || !slices.Equal(m.Goals(), want) || len(want) != 8 {
		t.Error(m.Goals(), e)
	}
	var got []string
	for _, v := range m.Values() {
		got = append(got, names.GoalText(v.Goal)+" "+texts(v.Users))
	}
	if x := strings.Join(got, ", "); x != "doc:a#p doc:c, doc:a#b user:x user:y, doc:a#v user:z, doc:c#v user:x user:y user:z, group:g#m user:x user:y, group:h#m user:x user:y" {
		t.Error(x)
	}
	for i, x := range []struct {
		s, l string
		e    api.Errno
	}{{"namespace a { relation b: [a] = this - b; }", "", api.ErrStrata}, {sample, "doc:a#p@user:x", api.ErrType}, {sample, "doc:a#w@user:x", api.ErrName}} {
		if m, e := Of(parsed(t, x.s), list(t, x.l)); e != x.e || len(m.Goals()) != 0 {
			t.Error(i, e)
		}
	}
	var none Model
	_, e1 := none.Users(goal(t, "doc:a#v"))
	_, e2 := none.Has(goal(t, "doc:a#v"), user("x"))
	if e1 != api.ErrName || e2 != api.ErrName || len(none.Goals()) != 0 || len(none.Values()) != 0 {
		t.Error("the zero model")
	}
}

func TestP21_2UsersHas(t *testing.T) {
	m, _ := Of(parsed(t, sample), list(t, facts))
	l, e := m.Users(goal(t, "group:h#m"))
	if e != api.OK || texts(l) != "user:x user:y" || cap(l) != 2 {
		t.Error(l, e)
	}
	l[0].ID = "q"
	if l, _ := m.Users(goal(t, "group:h#m")); texts(l) != "user:x user:y" {
		t.Error("shared")
	}
	if l, e := m.Users(goal(t, "doc:q#v")); e != api.OK || len(l) != 0 {
		t.Error(l, e)
	}
	for _, g := range []api.Goal{goal(t, "doc:a#w"), goal(t, "team:a#v"), {Object: api.Object{Space: "doc", ID: "A"}, Rel: "v"}, {}} {
		_, e1 := m.Users(g)
		_, e2 := m.Has(g, user("x"))
		if e1 != api.ErrName || e2 != api.ErrName {
			t.Error(g)
		}
	}
	if _, e := m.Has(goal(t, "doc:a#v"), user("X")); e != api.ErrName {
		t.Error(e)
	}
}

func TestP21_3CheckExpand(t *testing.T) {
	s, l := parsed(t, sample), list(t, facts)
	for g, want := range map[string]string{"group:h#m": "user:x user:y", "doc:c#v": "user:x user:y user:z", "doc:a#v": "user:z"} {
		if x, e := Expand(s, l, goal(t, g)); e != api.OK || texts(x) != want {
			t.Error(g, x, e)
		}
	}
	for g, want := range map[string]bool{"doc:a#v": false, "doc:c#v": true, "doc:q#v": false} {
		if x, e := Check(s, l, goal(t, g), user("x")); e != api.OK || x != want {
			t.Error(g, x, e)
		}
	}
	bad := list(t, "doc:a#p@user:x")
	_, e1 := Check(s, l, goal(t, "doc:a#w"), user("x"))
	_, e2 := Check(s, bad, goal(t, "doc:a#w"), user("x"))
	_, e3 := Expand(s, bad, goal(t, "doc:a#w"))
	_, e4 := Expand(s, l, goal(t, "doc:a#w"))
	if e1 != api.ErrName || e2 != api.ErrType || e3 != api.ErrType || e4 != api.ErrName {
		t.Error(e1, e2, e3, e4)
	}
}

func TestP21_4Made(t *testing.T) {
	s, l := parsed(t, sample), list(t, facts)
	v := []Value{{goal(t, "doc:c#v"), []api.Object{user("a"), user("b")}}, {goal(t, "doc:a#b"), []api.Object{user("a")}}}
	if x, e := Made(s, l, v, goal(t, "doc:a#v")); e != api.OK || texts(x) != "user:b" || cap(x) != 1 {
		t.Error(x, e)
	}
	if x, e := Made(s, l, nil, goal(t, "doc:c#v")); e != api.OK || texts(x) != "user:z" {
		t.Error(x, e)
	}
	turned := Value{goal(t, "doc:a#v"), []api.Object{user("b"), user("a")}}
	for i, x := range []struct {
		l []api.Tuple
		v []Value
		g string
		e api.Errno
	}{
		{list(t, "doc:a#p@user:x"), v, "doc:a#w", api.ErrType}, {l, append(v, Value{}), "doc:a#v", api.ErrName}, {l, append(v, v[0]), "doc:a#w", api.ErrName}, {l, append(v, turned, v[0]), "doc:a#v", api.ErrTwice}, {l, append(v, turned), "doc:a#v", api.ErrOrder},
	} {
		if got, e := Made(s, x.l, x.v, goal(t, x.g)); e != x.e || len(got) != 0 {
			t.Error(i, e)
		}
	}
}

func TestP21_5Consequences(t *testing.T) {
	s := parsed(t, sample)
	r := rand.New(rand.NewSource(1))
	var all []api.Tuple
	for _, a := range "abc" {
		for _, b := range "abc" {
			all = append(all, list(t, strings.NewReplacer("A", string(a), "B", string(b)).Replace("doc:A#p@doc:B doc:A#b@group:B#m doc:A#v@group:B#m doc:A#v@user:B group:A#m@group:B#m group:A#m@user:B"))...)
		}
	}
	for range 200 {
		var l []api.Tuple
		for range r.Intn(14) {
			l = append(l, all[r.Intn(len(all))])
		}
		m, e := Of(s, l)
		if e != api.OK {
			t.Fatal(e)
		}
		users := fits.Users(l)
		for _, g := range m.Goals() {
			want, _ := m.Users(g)
			if got, e := Made(s, l, m.Values(), g); e != api.OK || !slices.Equal(got, want) {
				t.Fatal("no fixpoint")
			}
			for _, u := range want {
				if !slices.Contains(users, u) {
					t.Fatal("no user")
				}
			}
		}
		mixed := slices.Clone(l)
		r.Shuffle(len(l), func(i, j int) { mixed[i], mixed[j] = mixed[j], mixed[i] })
		n, _ := Of(s, mixed)
		more, _ := Of(s, append(mixed, all[r.Intn(len(all))]))
		for _, v := range m.Values() {
			if x, _ := n.Users(v.Goal); !slices.Equal(x, v.Users) {
				t.Fatal("the order of tuples")
			}
			x, _ := more.Users(v.Goal)
			for _, u := range v.Users {
				if v.Goal.Rel != "v" && !slices.Contains(x, u) {
					t.Fatal("more tuples have taken a user")
				}
			}
		}
	}
	if m, e := Of(s, nil); e != api.OK || len(m.Values()) != 0 {
		t.Error("no tuples")
	}
	long := list(t, "group:1000#m@user:x")
	for i := range 999 {
		long = append(long, list(t, "group:"+strconv.Itoa(i+1)+"#m@group:"+strconv.Itoa(i+2)+"#m")...)
	}
	if yes, e := Check(s, long, goal(t, "group:1#m"), user("x")); !yes || e != api.OK {
		t.Error("a long chain")
	}
}
