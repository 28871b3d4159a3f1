package fits

import (
	"slices"
	"strings"
	"testing"

	"countersign/api"
	"countersign/names"
	"countersign/parsers"
	"countersign/schemas"
	"countersign/tuples"
)

const sample = "namespace user {} namespace doc { relation p: [doc]; relation v: [user, doc#v] = this | p->v; }"

func parsed(t *testing.T, text string) api.Schema {
	t.Helper()
	s, _, e := parsers.Parse(text)
	if e != api.OK {
		t.Fatal(text, e)
	}
	return s
}

func list(t *testing.T, texts ...string) []api.Tuple {
	t.Helper()
	var l []api.Tuple
	for _, s := range texts {
		x, e := tuples.Parse(s)
		if e != api.OK {
			t.Fatal(s, e)
		}
		l = append(l, x)
	}
	return l
}

func texts[T any](l []T, text func(T) string) string {
	var out []string
	for _, x := range l {
		out = append(out, text(x))
	}
	return strings.Join(out, " ")
}

func TestP20_1Check(t *testing.T) {
	s := parsed(t, sample)
	for text, want := range map[string]api.Errno{
		"doc:a#v@user:x": 0, "doc:a#v@doc:b#v": 0, "doc:a#v@doc:b": api.ErrType, "user:a#v@user:x": api.ErrName, "doc:a#p@doc:b": 0, "doc:a#p@doc:b#p": api.ErrType, "doc:a#x@user:x": api.ErrName, "team:a#v@user:x": api.ErrName, "doc:a#v@user:x#v": api.ErrType,
	} {
		if e := Check(s, list(t, text)[0]); e != want {
			t.Error(text, e)
		}
	}
	bad := list(t, "doc:a#v@doc:b")[0]
	bad.Subject.Object.ID = "B"
	if Check(s, bad) != api.ErrName || Check(parsed(t, "namespace a { relation b: [a] = this - b; }"), bad) != api.ErrStrata {
		t.Error("a tuple, or a schema, that is not valid")
	}
}

func TestP20_2AllSplit(t *testing.T) {
	s := parsed(t, sample)
	l := list(t, "doc:a#p@doc:b", "doc:a#p@user:x", "doc:a#v@user:x", "doc:a#p@doc:b")
	if at, e := All(s, l); at != 1 || e != api.ErrType {
		t.Error(at, e)
	}
	if at, e := All(s, l[2:]); at != 2 || e != api.OK {
		t.Error(at, e)
	}
	fit, rest, e := Split(s, l)
	if e != api.OK || texts(fit, tuples.Text) != "doc:a#p@doc:b doc:a#v@user:x doc:a#p@doc:b" || texts(rest, tuples.Text) != "doc:a#p@user:x" || cap(fit) != 3 || cap(rest) != 1 {
		t.Error(fit, rest, e)
	}
	bad := parsed(t, "namespace a { relation b; }")
	at, e1 := All(bad, l)
	fit, rest, e2 := Split(bad, l)
	if at != 0 || e1 != api.ErrType || e2 != api.ErrType || len(fit) != 0 || len(rest) != 0 {
		t.Error("a schema that is not valid")
	}
}

func TestP20_3ObjectsUsers(t *testing.T) {
	l := list(t, "doc:b#v@user:x", "doc:a#v@doc:b#v", "a0:a#v@user:x", "a:z#v@a:z")
	if s := texts(Objects(l), names.Text); s != "a:z a0:a doc:a doc:b user:x" {
		t.Error(s)
	}
	if s := texts(Users(l), names.Text); s != "a:z user:x" || cap(Users(l)) != 2 || cap(Objects(l)) != 5 {
		t.Error(s)
	}
	if len(Objects(nil)) != 0 || len(Users(nil)) != 0 || !slices.Equal(Objects(make([]api.Tuple, 3)), []api.Object{{}}) || !slices.Equal(Users(make([]api.Tuple, 3)), []api.Object{{}}) {
		t.Error("tuples that are not valid")
	}
}

func TestP20_4Goals(t *testing.T) {
	s := parsed(t, sample)
	l := list(t, "doc:b#v@user:x", "doc:a#v@doc:b#v", "team:x#v@user:x")
	g, e := Goals(s, l)
	if text := texts(g, names.GoalText); e != api.OK || text != "doc:a#p doc:a#v doc:b#p doc:b#v" || cap(g) != 4 {
		t.Error(text, e)
	}
	if g, e := Goals(parsed(t, "namespace a { relation b; }"), l); e != api.ErrType || len(g) != 0 {
		t.Error(e)
	}
}

func TestP20_5Consequences(t *testing.T) {
	s, more := parsed(t, sample), parsed(t, strings.Replace(sample, "[doc]", "[doc, user]", 1)+" namespace x { relation y: [x]; }")
	l := list(t, "doc:a#p@doc:b", "doc:a#p@user:x", "doc:a#v@user:x", "doc:c#v@doc:b#v", "x:a#y@x:b")
	fit, rest, _ := Split(s, l)
	if at, e := All(s, fit); at != len(fit) || e != api.OK || len(fit)+len(rest) != len(l) {
		t.Error("what fits")
	}
	if _, e := All(more, fit); !schemas.Extends(more, s) || e != api.OK {
		t.Error("a schema that extends")
	}
	goals, _ := Goals(s, fit)
	for _, x := range fit {
		if !slices.Contains(goals, x.Goal) || x.Subject.Rel != "" && !slices.Contains(goals, api.Goal(x.Subject)) {
			t.Error(tuples.Text(x))
		}
	}
}
