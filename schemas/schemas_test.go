package schemas

import (
	"slices"
	"strings"
	"testing"

	"countersign/api"
	"countersign/parsers"
)

const sample = "namespace user {} namespace doc { relation parent: [doc]; relation view: [user, doc#view] = this | parent->view; }"

func parsed(t *testing.T, text string) api.Schema {
	t.Helper()
	s, _, e := parsers.Parse(text)
	if e != api.OK {
		t.Fatal(text, e)
	}
	return s
}

func TestP15_1Check(t *testing.T) {
	name, twice, typ := api.ErrName, api.ErrTwice, api.ErrType
	for text, want := range map[string]api.Errno{
		sample: 0, "": 0, "namespace a {} namespace a {}": twice,
		strings.Replace(sample, "[user, doc#view]", "[user, user]", 1): twice, strings.Replace(sample, "[user, doc#view]", "[team]", 1): name, strings.Replace(sample, "parent->view", "view->view", 1): typ,
		"namespace user {} namespace doc { relation parent: [doc]; relation view: [user] = this | view->view; }": typ,
		"namespace a { relation b: [a]; relation b: [a]; }":                                                      twice,
		"namespace a { relation b: [x]; relation b: [a]; }":                                                      name,
		"namespace a { relation b: [a#c]; }":                                                                     name,
		"namespace a { relation b: [a#b]; }":                                                                     0,
		"namespace a { relation b: [x] = c; }":                                                                   name,
		"namespace a { relation b: [a, a] = c; }":                                                                twice,
		"namespace a { relation b = c; }":                                                                        name,
		"namespace a { relation b = b; }":                                                                        0,
		"namespace a { relation b = c->b; }":                                                                     name,
		"namespace a { relation b = b->c; }":                                                                     typ,
		"namespace a { relation b; }":                                                                            typ,
		"namespace a { relation b: [a] = b; }":                                                                   typ,
		"namespace a { relation b: [a] = c; relation c: [a] = this | b->c; }":                                    0,
		"namespace x {} namespace a { relation b: [a, x, a#b]; relation c = b->c; }":                             0,
		"namespace x {} namespace a { relation b: [x, a#b]; relation c = b->b; }":                                typ,
		"namespace a { relation b: [a]; } namespace c { relation d = b; }":                                       name,
		"namespace a { relation b: [a] = c; } namespace c { relation b: [c]; relation d = b->d; }":               name,
		"namespace a { relation b = (this | b->x) - y; }":                                                        typ,
		"namespace a { relation b: [a] = (this | y) - b->x; }":                                                   name,
	} {
		if e := Check(parsed(t, text)); e != want {
			t.Error(text, e)
		}
	}
	if Check(api.Schema{Spaces: make([]api.Space, 17)}) != api.ErrLimit {
		t.Error("the error of parsers")
	}
}

func TestP15_2RelationCountNumberAt(t *testing.T) {
	s := parsed(t, sample)
	if n, e := Number(s, "doc", "view"); n != 1 || e != api.OK || Count(s) != 2 {
		t.Error(n, e)
	}
	if space, rel, e := At(s, 0); space != "doc" || rel != "parent" || e != api.OK {
		t.Error(space, rel, e)
	}
	r, e := Relation(s, "doc", "view")
	if e != api.OK || r.Name != "view" || len(r.Types) != 2 || r.Rule.Kind != api.Union {
		t.Error(r, e)
	}
	r.Types[0].Space, r.Rule.Args[0].Kind = "x", 9
	if Check(s) != api.OK || s.Spaces[1].Relations[1].Types[0].Space != "user" {
		t.Error("shared")
	}
	for _, k := range [][2]string{{"doc", "edit"}, {"group", "view"}, {"", ""}, {"user", "view"}} {
		if _, e := Relation(s, k[0], k[1]); e != api.ErrName {
			t.Error(k, e)
		}
		if n, e := Number(s, k[0], k[1]); e != api.ErrName || n != 0 {
			t.Error(k, e)
		}
	}
	for _, n := range []int{-1, 2} {
		if _, _, e := At(s, n); e != api.ErrRange {
			t.Error(n, e)
		}
	}
	bad := parsed(t, "namespace a { relation b; }")
	_, e1 := Relation(bad, "x", "y")
	n, e2 := Number(bad, "x", "y")
	_, _, e3 := At(bad, 9)
	_, e4 := Targets(bad, "x", "y", "z")
	if e1 != api.ErrType || e2 != api.ErrType || e3 != api.ErrType || e4 != api.ErrType || n != 0 || Count(bad) != 0 {
		t.Error("a schema that is not closed")
	}
}

func TestP15_3Targets(t *testing.T) {
	s := parsed(t, sample)
	if l, e := Targets(s, "doc", "parent", "view"); e != api.OK || !slices.Equal(l, []string{"doc"}) || cap(l) != 1 {
		t.Error(l, e)
	}
	for _, k := range [][3]string{{"doc", "view", "view"}, {"doc", "parent", "x"}} {
		if l, e := Targets(s, k[0], k[1], k[2]); e != api.ErrType || len(l) != 0 {
			t.Error(k, e)
		}
	}
	if _, e := Targets(s, "doc", "x", "view"); e != api.ErrName {
		t.Error(e)
	}
	s = parsed(t, "namespace c { relation v: [c]; } namespace a { relation v: [c]; } namespace b {} namespace d { relation p: [c, b, a#v, a]; relation v = p->v; }")
	if l, e := Targets(s, "d", "p", "v"); e != api.OK || !slices.Equal(l, []string{"c", "a"}) {
		t.Error(l, e)
	}
}

func TestP15_4Extends(t *testing.T) {
	s := parsed(t, sample)
	for text, want := range map[string]bool{
		sample: true, "namespace doc { relation view: [doc#view, user, group] = this | parent->view; relation edit: [user]; relation parent: [doc]; } namespace group {} namespace user {}": true,
		"namespace user {} namespace doc { relation parent: [doc]; relation view: [user] = this | parent->view; }":           false,
		"namespace user {} namespace doc { relation parent: [doc]; relation view: [user, doc#view] = parent->view | this; }": false,
		"namespace user {} namespace doc { relation parent: [doc]; }":                                                        false,
		"namespace user {}": false, sample + " namespace x { relation y; }": false,
	} {
		if Extends(parsed(t, text), s) != want {
			t.Error(text)
		}
	}
	if Extends(parsed(t, "namespace a {}"), parsed(t, "namespace b {}")) {
		t.Error("a namespace without relations")
	}
	if Extends(s, parsed(t, "namespace a { relation b; }")) || !Extends(s, api.Schema{}) {
		t.Error("old schemas")
	}
}

func TestP15_5Consequences(t *testing.T) {
	s := parsed(t, sample)
	for n := range Count(s) {
		space, rel, _ := At(s, n)
		if m, e := Number(s, space, rel); m != n || e != api.OK {
			t.Error(n)
		}
	}
	a, b, c := parsed(t, "namespace user {}"), s, parsed(t, sample+" namespace z {}")
	if !Extends(a, a) || !Extends(b, a) || !Extends(c, b) || !Extends(c, a) || Extends(a, b) {
		t.Error("Extends")
	}
}
