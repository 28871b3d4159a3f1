package names

import (
	"testing"

	"countersign/api"
)

func obj(space, id string) api.Object { return api.Object{Space: space, ID: id} }

func TestP1_1Checks(t *testing.T) {
	for s, want := range map[string]api.Errno{"doc": 0, "a": 0, "0": 0, "z9": 0, "0123456789abcdef": 0, "": api.ErrName, "Doc": api.ErrName, "0123456789abcdef0": api.ErrName, "a b": api.ErrName, "a`": api.ErrName, "a{": api.ErrName, "a/": api.ErrName, "é": api.ErrName, "a\x00": api.ErrName} {
		if e := Check(s); e != want {
			t.Errorf("Check(%q) = %d", s, e)
		}
		if e := Object(obj(s, "x")); e != want {
			t.Errorf("Object space %q = %d", s, e)
		}
		if e := Object(obj("x", s)); e != want {
			t.Errorf("Object id %q = %d", s, e)
		}
		if e := Goal(api.Goal{Object: obj("x", "y"), Rel: s}); e != want {
			t.Errorf("Goal rel %q = %d", s, e)
		}
		if e := Goal(api.Goal{Object: obj("x", s), Rel: "r"}); e != want {
			t.Errorf("Goal id %q = %d", s, e)
		}
		if s != "" {
			if e := Subject(api.Subject{Object: obj("x", "y"), Rel: s}); e != want {
				t.Errorf("Subject rel %q = %d", s, e)
			}
		}
		if e := Subject(api.Subject{Object: obj(s, "y")}); e != want {
			t.Errorf("Subject space %q = %d", s, e)
		}
	}
	if Subject(api.Subject{Object: obj("x", "y")}) != api.OK {
		t.Error("a subject without a relation")
	}
}

func TestP1_2Texts(t *testing.T) {
	o := obj("doc", "A")
	if Text(o) != "doc:A" || GoalText(api.Goal{Object: o, Rel: "v"}) != "doc:A#v" || GoalText(api.Goal{Object: o}) != "doc:A#" {
		t.Error("texts of objects and goals")
	}
	if SubjectText(api.Subject{Object: o, Rel: "v"}) != "doc:A#v" || SubjectText(api.Subject{Object: o}) != "doc:A" || SubjectText(api.Subject{}) != ":" {
		t.Error("texts of subjects")
	}
}

func TestP1_3Parse(t *testing.T) {
	form, name := api.ErrForm, api.ErrName
	for s, want := range map[string][3]api.Errno{
		"doc:a": {0, form, 0}, "doc:a#b": {form, 0, 0}, "doc:a#": {form, name, name}, "a:b:c": {form, form, form},
		"a:": {name, form, name}, ":a": {name, form, name}, "a#b:c": {form, form, form}, "": {form, form, form},
		"doc:a#b#c": {form, form, form}, "doc:A": {name, form, name}, "doc:a#B": {form, name, name}, "#:": {form, form, form}, "a:b##": {form, form, form},
		"A:b#c": {form, name, name},
	} {
		o, e := ParseObject(s)
		if e != want[0] || e != 0 && o != (api.Object{}) || e == 0 && Text(o) != s {
			t.Errorf("ParseObject(%q) = %v %d", s, o, e)
		}
		g, e := ParseGoal(s)
		if e != want[1] || e != 0 && g != (api.Goal{}) || e == 0 && GoalText(g) != s {
			t.Errorf("ParseGoal(%q) = %v %d", s, g, e)
		}
		u, e := ParseSubject(s)
		if e != want[2] || e != 0 && u != (api.Subject{}) || e == 0 && SubjectText(u) != s {
			t.Errorf("ParseSubject(%q) = %v %d", s, u, e)
		}
	}
}

func TestP1_4Compare(t *testing.T) {
	if Compare(obj("a", "z"), obj("a0", "a")) != -1 || Compare(obj("a", "z"), obj("a", "z")) != 0 || Compare(obj("a", "z"), obj("a", "y")) != 1 {
		t.Error("objects")
	}
	g := api.Goal{Object: obj("a", "b"), Rel: "c"}
	if CompareGoal(g, api.Goal{Object: obj("a", "b"), Rel: "d"}) != -1 || CompareGoal(g, g) != 0 || CompareGoal(g, api.Goal{Object: obj("a", "a"), Rel: "z"}) != 1 {
		t.Error("goals")
	}
	u := api.Subject{Object: obj("a", "b")}
	if CompareSubject(u, api.Subject{Object: obj("a", "b"), Rel: "a"}) != -1 || CompareSubject(u, u) != 0 || CompareSubject(u, api.Subject{Object: obj("A", "b")}) != 1 {
		t.Error("subjects")
	}
}

func TestP1_5Consequences(t *testing.T) {
	all := []string{"a", "z", "a0", "0", "doc", "0123456789abcdef"}
	texts := map[string]bool{}
	var l []api.Subject
	for _, a := range all {
		for _, b := range all {
			for _, c := range append(all, "") {
				u := api.Subject{Object: obj(a, b), Rel: c}
				back, e := ParseSubject(SubjectText(u))
				if e != api.OK || back != u || texts[SubjectText(u)] {
					t.Fatal(u, e)
				}
				texts[SubjectText(u)] = true
				l = append(l, u)
			}
		}
	}
	for _, a := range l {
		for _, b := range l {
			if CompareSubject(a, b) != -CompareSubject(b, a) || (CompareSubject(a, b) == 0) != (a == b) {
				t.Fatal("no order", a, b)
			}
		}
	}
	a, b := obj("a", "z"), obj("a0", "a")
	if !(Compare(a, b) < 0 && Text(a) > Text(b)) {
		t.Error("the order of objects is not that of their texts")
	}
}
