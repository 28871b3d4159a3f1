package parsers

import (
	"fmt"
	"math/rand"
	"strconv"
	"strings"
	"testing"

	"countersign/api"
	"countersign/lexers"
	"countersign/rules"
)

// equal reports whether two values are equal; lists that are nil and empty are.
func equal(a, b any) bool { return fmt.Sprint(a) == fmt.Sprint(b) }

const sample = "namespace user {} namespace doc { relation a: [user] = this | b; relation b: [user, doc#a]; }"

func this() api.Rule { return api.Rule{Kind: api.This} }

func parsed(t *testing.T, text string) api.Schema {
	t.Helper()
	s, at, e := Parse(text)
	if e != api.OK || at != len(text) {
		t.Fatal(text, at, e)
	}
	return s
}

// one returns a schema with one relation.
func one(r api.Relation) api.Schema {
	return api.Schema{Spaces: []api.Space{{Name: "a", Relations: []api.Relation{r}}}}
}

func TestP14_1Check(t *testing.T) {
	types := func(n int) []api.Type { return make([]api.Type, n) }
	for i, x := range []struct {
		s api.Schema
		e api.Errno
	}{
		{api.Schema{}, 0}, {parsed(t, sample), 0}, {api.Schema{Spaces: make([]api.Space, 17)}, api.ErrLimit}, {api.Schema{Spaces: make([]api.Space, 16)}, api.ErrName}, {api.Schema{Spaces: []api.Space{{Name: "this"}}}, api.ErrName},
		{api.Schema{Spaces: []api.Space{{Name: "a", Relations: make([]api.Relation, 17)}}}, api.ErrLimit}, {api.Schema{Spaces: []api.Space{{Name: "a", Relations: make([]api.Relation, 16)}}}, api.ErrName}, {api.Schema{Spaces: []api.Space{{Name: "a"}, {Name: "a"}}}, 0},
		{one(api.Relation{Name: "relation", Types: types(9)}), api.ErrName}, {one(api.Relation{Name: "b", Types: types(9)}), api.ErrLimit}, {one(api.Relation{Name: "b", Types: types(8)}), api.ErrName},
		{one(api.Relation{Name: "b", Types: []api.Type{{Space: "u", Rel: "X"}}, Rule: this()}), api.ErrName}, {one(api.Relation{Name: "b"}), api.ErrKind}, {one(api.Relation{Name: "b", Rule: this()}), 0},
		{one(api.Relation{Name: "b", Rule: api.Rule{Kind: api.Computed, Rel: "this"}}), api.ErrName},
	} {
		if e := Check(x.s); e != x.e {
			t.Error(i, e)
		}
	}
}

func TestP14_2Text(t *testing.T) {
	want := "namespace user {\n}\nnamespace doc {\n  relation a: [user] = this | b;\n  relation b: [user, doc#a];\n}\n"
	if s, e := Text(parsed(t, sample)); e != api.OK || s != want {
		t.Error(s, e)
	}
	if s, _ := Text(parsed(t, "namespace a { relation b = c - d; relation c=this;}")); s != "namespace a {\n  relation b = c - d;\n  relation c;\n}\n" {
		t.Error(s)
	}
	if s, e := Text(one(api.Relation{})); s != "" || e != api.ErrName {
		t.Error(e)
	}
	if s, e := Text(api.Schema{}); s != "" || e != api.OK {
		t.Error(e)
	}
}

func TestP14_3Parse(t *testing.T) {
	s := parsed(t, sample)
	want := api.Schema{Spaces: []api.Space{{Name: "user"}, {Name: "doc", Relations: []api.Relation{
		{Name: "a", Types: []api.Type{{Space: "user"}}, Rule: api.Rule{Kind: api.Union, Args: []api.Rule{this(), {Kind: api.Computed, Rel: "b"}}}},
		{Name: "b", Types: []api.Type{{Space: "user"}, {Space: "doc", Rel: "a"}}, Rule: this()}}}}}
	if !equal(s, want) {
		t.Error(s)
	}
	spaces := strings.Repeat("namespace a {} ", 16)
	relations := "namespace a {" + strings.Repeat(" relation b;", 16)
	types := "namespace a { relation b: [" + strings.Repeat("x, ", 7)
	wide := strings.Repeat("b | ", 31)
	form, limit := api.ErrForm, api.ErrLimit
	for i, x := range []struct {
		s  string
		at int
		e  api.Errno
	}{
		{"namespace this {}", 10, form}, {"namespace a {", 13, form}, {"namespace a { relation b: []; }", 27, form}, {"namespace a {} x", 15, form}, {"a", 0, form}, {"namespace a { relation b: x; }", 26, form}, {"namespace a { relation b", 24, form},
		{"namespace a { relation b = ; }", 27, form}, {"namespace a { relation b = (c; }", 29, form}, {"namespace a { relation b = c d; }", 29, form}, {"namespace a { relation b: [x#]; }", 29, form}, {"namespace a { relation b: [x,]; }", 29, form}, {"namespace a { relation b: [x] }", 30, form},
		{"namespace a { relation b = c - d - e; }", 33, form}, {"namespace a B", 12, form}, {"namespace a { 0123456789abcdefg", 14, api.ErrName}, {strings.Repeat(" ", 1<<20+1), 0, limit},
		{spaces, len(spaces), 0}, {spaces + "namespace", len(spaces), limit}, {relations + "}", len(relations) + 1, 0}, {relations + " relation", len(relations) + 1, limit}, {types + "x]; }", len(types) + 5, 0}, {types + "x, x", len(types) + 3, limit}, {types + "x, ]", len(types) + 3, form},
		{"namespace a { relation c = " + wide + "b; }", 27, limit}, {"namespace a { relation c = " + wide + "b x", 27, limit}, {"namespace a { relation c = " + wide + "B", 27 + len(wide), form}, {"namespace a { relation c = " + wide + ";", 27 + len(wide), form},
		{"namespace a { relation c = " + strings.Repeat("(", 40) + "b" + strings.Repeat(")", 40) + "; }", 111, 0}, {"namespace a { relation c = (a - (a - (a - (a - (a - (a - (a - (a - a)))))))); }", 27, limit},
	} {
		s, at, e := Parse(x.s)
		if at != x.at || e != x.e || e != 0 && len(s.Spaces) != 0 {
			t.Error(i, at, e)
		}
	}
	for i, x := range []struct {
		s  string
		at int
		e  api.Errno
	}{
		{"a - (b | c->d)", 14, 0}, {"a - b - c", 6, form}, {"a |", 3, form}, {"", 0, form}, {" ( " + wide + "b)", 1, limit}, {wide + "b x", len(wide) + 2, form}, {"a->this", 3, form}, {"namespace", 0, form}, {"((a))", 5, 0}, {"(a))", 3, form},
	} {
		r, at, e := Rule(x.s)
		if at != x.at || e != x.e || e != 0 && r.Kind != 0 {
			t.Error(i, at, e)
		}
	}
	deep := strings.Repeat("(", lexers.MaxTokens)
	if _, at, e := Rule(deep); at != len(deep) || e != form {
		t.Error(at, e)
	}
}

func TestP14_4SameCopy(t *testing.T) {
	s := parsed(t, sample)
	c := Copy(s)
	if !Same(s, c) || !Same(api.Schema{}, Copy(api.Schema{})) {
		t.Error("Copy")
	}
	for i, change := range []func(){
		func() { c.Spaces[0].Name = "u" }, func() { c.Spaces[1].Relations[0].Name = "x" }, func() { c.Spaces[1].Relations[1].Types[1].Rel = "" }, func() { c.Spaces[1].Relations[0].Rule.Args[1].Rel = "x" }, func() { c.Spaces = c.Spaces[:1] },
	} {
		if c = Copy(s); !Same(s, c) {
			t.Error(i, "shared")
		}
		if change(); Same(s, c) {
			t.Error(i)
		}
	}
	bad := one(api.Relation{})
	if Same(bad, bad) || Same(bad, api.Schema{}) || Same(api.Schema{}, bad) || len(Copy(bad).Spaces) != 0 || Same(s, bad) || !Same(api.Schema{}, api.Schema{Spaces: []api.Space{}}) {
		t.Error("a schema that cannot be written")
	}
}

func TestP14_5Consequences(t *testing.T) {
	x := rand.New(rand.NewSource(1))
	var rule func(depth int) api.Rule
	rule = func(depth int) api.Rule {
		switch k := x.Intn(6); {
		case depth == 0 || k == 0:
			return this()
		case k == 1:
			return api.Rule{Kind: api.Computed, Rel: "c" + strconv.Itoa(x.Intn(3))}
		case k == 2:
			return api.Rule{Kind: api.Arrow, Rel: "p", To: "q"}
		default:
			return api.Rule{Kind: uint8(k + 1), Args: []api.Rule{rule(depth - 1), rule(depth - 1)}}
		}
	}
	bare := strings.NewReplacer("(", "", ")", "")
	for range 1000 {
		r := rule(4)
		s := one(api.Relation{Name: "b", Types: []api.Type{{Space: "x"}, {Space: "y", Rel: "z"}}[:x.Intn(3)], Rule: r})
		text, e := Text(s)
		if e != api.OK {
			t.Fatal(e)
		}
		back, _, e := Parse(text)
		if e != api.OK || !Same(back, s) {
			t.Fatal(text, e)
		}
		own, _ := rules.Text(r)
		again, _, e := Rule(own)
		if e != api.OK || !rules.Same(again, r) {
			t.Fatal(own)
		}
		a, _, _ := lexers.Lex(bare.Replace(text))
		loose, _, _ := Parse(strings.ReplaceAll(strings.ReplaceAll(text, "= ", "= (("), ";\n", strings.Repeat(")", 2*strings.Count(text, "="))+";\n"))
		looseText, _ := Text(loose)
		if b, _, _ := lexers.Lex(bare.Replace(looseText)); !lexers.Same(a, b) {
			t.Fatal(text)
		}
	}
}
