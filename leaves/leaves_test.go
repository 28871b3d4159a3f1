package leaves

import (
	"slices"
	"testing"

	"countersign/api"
	"countersign/names"
	"countersign/parsers"
	"countersign/tuples"
)

const sample = "namespace user {} namespace group { relation m: [user, group#m]; } namespace doc { relation p: [doc, user]; relation v: [user, group#m] = (this | p->v) - w; relation w: [user]; }"

func list(t *testing.T, texts ...string) []api.Tuple {
	t.Helper()
	var l []api.Tuple
	for _, s := range texts {
		x, e := tuples.Parse(s)
		if e != api.OK {
			t.Fatal(s, e)
		}
		l = append(l, x)
	}
	return l
}

func text(l []Leaf) string {
	out := ""
	for _, x := range l {
		for _, o := range x.Users {
			out += " " + names.Text(o)
		}
		for _, g := range x.Goals {
			out += " " + names.GoalText(g)
		}
		out += ";"
	}
	return out
}

func TestLeaves(t *testing.T) {
	s, _, _ := parsers.Parse(sample)
	w, e := New(s, list(t, "doc:a#v@user:y", "doc:a#v@group:g#m", "doc:a#v@user:x", "doc:a#v@user:y", "doc:a#p@user:x", "doc:a#p@doc:c", "doc:a#p@doc:b"))
	if e != api.OK {
		t.Fatal(e)
	}
	g, _ := names.ParseGoal("doc:a#v")
	if got := text(w.Of(g)); got != " user:x user:y group:g#m; doc:b#v doc:c#v; doc:a#w;" {
		t.Error(got)
	}
	if w.Table(g).Rel != "v" || !Declared(w.Tables, g) || Declared(w.Tables, api.Goal{Object: g.Object, Rel: "x"}) || Declared(nil, g) {
		t.Error("declared")
	}
	if _, e := New(s, list(t, "doc:a#w@doc:b")); e != api.ErrType {
		t.Error(e)
	}
	if _, e := New(api.Schema{Spaces: make([]api.Space, 17)}, nil); e != api.ErrLimit {
		t.Error(e)
	}
}

func TestTogether(t *testing.T) {
	a, b := api.Object{Space: "a", ID: "z"}, api.Object{Space: "a0", ID: "a"}
	x := []api.Object{b, a}
	if l := Together(x, []api.Object{a}, nil); !slices.Equal(l, []api.Object{a, b}) || cap(l) != 2 || x[0] != b {
		t.Error(l)
	}
	if len(Together()) != 0 || len(Together(nil, nil)) != 0 {
		t.Error("no objects")
	}
}
