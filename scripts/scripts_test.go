package scripts

import (
	"fmt"
	"math/rand"
	"slices"
	"strings"
	"testing"

	"countersign/api"
	"countersign/parsers"
	"countersign/services"
)

// equal reports whether two values are equal; lists that are nil and empty are.
func equal(a, b any) bool { return fmt.Sprint(a) == fmt.Sprint(b) }

const (
	head1 = "config 4 1 2 3 9 0 0\nclient 1 2 3\nschema 2\nnamespace user {\n}\n"
	full  = head1 + "arrive 0 01ff\narrive 0 -\ntick 7\nwork 1\ndrain\n"
)

func sample() Script {
	s, _, _ := parsers.Parse("namespace user {}")
	return Script{
		api.Config{Clients: []api.Client{{Weight: 1, Rate: 2, Burst: 3}}, Cap: 4, Classes: 1, Age: 2, Quantum: 3, Budget: 9}, s,
		[]api.Event{{Kind: api.Arrive, Bytes: []byte{1, 255}}, {Kind: api.Arrive}, {Kind: api.Tick, N: 7}, {Kind: api.Work, Lane: 1}, {Kind: api.Drain}},
	}
}

func TestP42_1Check(t *testing.T) {
	if Check(sample()) != api.OK || Check(Script{}) != api.ErrConfig {
		t.Error("Check")
	}
	for i, x := range []struct {
		x api.Event
		e api.Errno
	}{
		{api.Event{}, api.ErrKind}, {api.Event{Kind: 8, N: 5}, api.ErrKind}, {api.Event{Kind: api.Arrive, N: 1, Client: 99}, api.ErrForm}, {api.Event{Kind: api.Arrive, Lane: 1}, api.ErrForm}, {api.Event{Kind: api.Arrive, Client: 15}, 0}, {api.Event{Kind: api.Arrive, Client: 16, Bytes: make([]byte, 65537)}, api.ErrRange}, {api.Event{Kind: api.Arrive, Client: -1}, api.ErrRange}, {api.Event{Kind: api.Arrive, Bytes: make([]byte, 65537)}, api.ErrLimit}, {api.Event{Kind: api.Arrive, Bytes: make([]byte, 65536)}, 0},
		{api.Event{Kind: api.Tick}, api.ErrRange}, {api.Event{Kind: api.Tick, N: 1 << 62}, 0}, {api.Event{Kind: api.Tick, N: 1}, 0}, {api.Event{Kind: api.Collect, N: 1}, 0}, {api.Event{Kind: api.Tick, N: 1<<62 + 1}, api.ErrRange}, {api.Event{Kind: api.Collect, N: 1 << 62}, 0}, {api.Event{Kind: api.Collect}, api.ErrRange}, {api.Event{Kind: api.Work, Lane: 2}, api.ErrRange}, {api.Event{Kind: api.Stall, Lane: -1}, api.ErrRange}, {api.Event{Kind: api.Resume, N: 1}, api.ErrForm}, {api.Event{Kind: api.Drain, Lane: 1}, api.ErrForm}, {api.Event{Kind: api.Drain, Bytes: []byte{0}}, api.ErrForm}, {api.Event{Kind: api.Work, Client: 1}, api.ErrForm},
	} {
		s := sample()
		s.Events = append(s.Events, x.x)
		if e := Check(s); e != x.e {
			t.Error(i, e)
		}
		_, e1 := Text(s)
		_, e2 := Cut(s, 99)
		_, e3 := Without(s, 99)
		_, _, _, e4 := Run(s)
		if x.e != api.OK && (e1 != x.e || e2 != x.e || e3 != x.e || e4 != x.e) {
			t.Error(i, e1, e2, e3, e4)
		}
	}
	s := sample()
	if s.Events = slices.Repeat([]api.Event{{Kind: api.Drain}}, 4096); Check(s) != api.OK {
		t.Error("the most events")
	}
	s.Events = make([]api.Event, 4097)
	if Check(s) != api.ErrLimit {
		t.Error("too many events")
	}
	s.Schema, _, _ = parsers.Parse("namespace a { relation b: [a] = this - b; }")
	if Check(s) != api.ErrStrata {
		t.Error("strata")
	}
	s.Schema, _, _ = parsers.Parse("namespace a { relation b; }")
	if Check(s) != api.ErrType {
		t.Error("schema")
	}
	s.Config.Cap = 0
	if Check(s) != api.ErrConfig {
		t.Error("config")
	}
}

func TestP42_2Text(t *testing.T) {
	if s, e := Text(sample()); e != api.OK || s != full {
		t.Error(s, e)
	}
	s := sample()
	s.Events = []api.Event{{Kind: api.Stall, Lane: 1}, {Kind: api.Resume}, {Kind: api.Collect, N: 1 << 62}}
	if x, _ := Text(s); x != head1+"stall 1\nresume 0\ncollect 4611686018427387904\n" {
		t.Error(x)
	}
	s.Events = slices.Repeat([]api.Event{{Kind: api.Arrive, Bytes: make([]byte, 65536)}}, 8)
	if x, e := Text(s); e != api.ErrLimit || x != "" {
		t.Error(e)
	}
}

func TestP42_3Parse(t *testing.T) {
	const c, l = "config 4 1 2 3 9 0 0\n", "client 1 2 3\n"
	form, rang := api.ErrForm, api.ErrRange
	for i, x := range []struct {
		t    string
		line int
		e    api.Errno
	}{
		{full, 0, 0}, {head1, 0, 0}, {c + "schema 0\n", 0, api.ErrConfig}, {c + l + "schema 0\n", 0, 0}, {"config 4 1 2 3 9 0\n", 1, form}, {c + l + "schema 2\nnamespace user {\n", 3, form}, {c + l + "schema 2\nnamespace user {\n}", 3, form}, {c + l + "schema 2\nnamespace  user {\n}\n", 3, form}, {c + l + "schema 2\nnamespace user {}\n\n", 3, form}, {c + l + "schema 1\nnamespace user {\n}\n", 3, form},
		{c + l + "schema -1\n", 3, form}, {c + l + "schema\n", 3, form}, {c + l + "schema 9223372036854775807\n", 3, form}, {c + l + "schema 9223372036854775808\n", 3, form}, {"", 1, form}, {c, 2, form}, {c + l, 3, form}, {c + l + "x\n", 3, form}, {c + l[:12], 2, form}, {"config 4 1 2 3 9 0 0", 1, form}, {"Config 4 1 2 3 9 0 0\n", 1, form}, {"config 04 1 2 3 9 0 0\n", 1, form}, {"config -0 1 2 3 9 0 0\n", 1, form}, {"config +4 1 2 3 9 0 0\n", 1, form},
		{"config 4 1 2 3 9 0 256\n", 1, form}, {"config 4 1 2 3 9 0 -1\n", 1, form}, {"config 4 1 2 3 9 0 255\n" + l + "schema 0\n", 0, api.ErrConfig}, {"config -4 1 2 3 9 0 0\n" + l + "schema 0\n", 0, api.ErrConfig}, {"config 9223372036854775808 1 2 3 9 0 0\n", 1, form}, {"config 4 1 2 3 9 0 0 \n", 1, form}, {"config 4  1 2 3 9 0 0\n", 1, form}, {c + "client 1 2\nschema 0\n", 2, form}, {c + "client\n", 2, form}, {c + "client 1 2 99999999999999999999\n", 2, form},
		{c + strings.Repeat(l, 17) + "schema 0\n", 0, api.ErrConfig}, {head1 + "arrive 0 0\n", 6, form}, {head1 + "arrive 0 \n", 6, form}, {head1 + "arrive 0\n", 6, form}, {head1 + "arrive 0 0G\n", 6, form}, {head1 + "arrive 0 FF\n", 6, form}, {head1 + "arrive 0 - -\n", 6, form}, {head1 + "arrive 16 -\n", 0, rang}, {head1 + "arrive -1 -\n", 0, rang}, {head1 + "work 2\n", 0, rang}, {head1 + "tick 0\n", 0, rang}, {head1 + "tick 9223372036854775807\n", 0, rang}, {head1 + "tick 9223372036854775808\n", 6, form},
		{head1 + "drain 0\n", 6, form}, {head1 + "drain\ndrain", 7, form}, {head1 + "\n", 6, form}, {head1 + "drain\r\n", 6, form}, {head1 + " drain\n", 6, form}, {head1 + "work\n", 6, form}, {head1 + "work 0 1\n", 6, form}, {head1 + l, 6, form}, {strings.Repeat("\n", 1<<20+1), 0, api.ErrLimit}, {strings.Repeat("\n", 1<<20), 1, form}, {head1 + strings.Repeat("drain\n", 4097), 0, api.ErrLimit}, {c + l + "schema 3\nnamespace a {\n  relation b;\n}\n", 0, api.ErrType},
		{full[:len(full)-6] + "arrive 0 0\n", 10, form}, {full[:len(full)-6] + "work 2\n", 0, rang},
	} {
		s, line, e := Parse(x.t)
		if line != x.line || e != x.e || e != api.OK && !equal(s, Script{}) {
			t.Error(i, line, e)
		}
	}
	if s, _, _ := Parse(full); !Same(s, sample()) {
		t.Error(s)
	}
	others := sample()
	others.Events = []api.Event{{Kind: api.Stall, Lane: 1}, {Kind: api.Resume}, {Kind: api.Collect, N: 1 << 62}}
	if s, _, _ := Parse(head1 + "stall 1\nresume 0\ncollect 4611686018427387904\n"); !Same(s, others) {
		t.Error(s)
	}
	for _, word := range []string{"", "Work", "wor", "works", "wait"} {
		if s, line, e := Parse(head1 + word + " 0\n"); line != 6 || e != form || !equal(s, Script{}) {
			t.Error(word, line, e)
		}
	}
}

func TestP42_4SameCutWithout(t *testing.T) {
	for i, change := range []func(s *Script){
		func(s *Script) { s.Config.Cap++ }, func(s *Script) { s.Config.Classes++ }, func(s *Script) { s.Config.Age++ }, func(s *Script) { s.Config.Quantum++ }, func(s *Script) { s.Config.Budget++ }, func(s *Script) { s.Config.Hedge++ }, func(s *Script) { s.Config.Flaw++ }, func(s *Script) { s.Config.Clients[0].Rate++ }, func(s *Script) { s.Config.Clients = nil }, func(s *Script) { s.Schema.Spaces[0].Name = "x" }, func(s *Script) { s.Schema.Spaces[0].Relations = make([]api.Relation, 1) },
		func(s *Script) { s.Events = s.Events[:4] }, func(s *Script) { s.Events[0].Bytes[1]++ }, func(s *Script) { s.Events[0].Kind++ }, func(s *Script) { s.Events[0].Client++ }, func(s *Script) { s.Events[0].Lane++ }, func(s *Script) { s.Events[0].N++ },
	} {
		s := sample()
		if change(&s); Same(s, sample()) || !Same(s, s) {
			t.Error(i)
		}
	}
	rule := func() api.Rule {
		return api.Rule{Kind: api.Union, Rel: "a", To: "b", Args: []api.Rule{{Kind: api.This}}}
	}
	relation := func() Script {
		return Script{Schema: api.Schema{Spaces: []api.Space{{Name: "a", Relations: []api.Relation{{Name: "b", Types: []api.Type{{Space: "x"}}, Rule: rule()}}}}}}
	}
	for i, change := range []func(r *api.Relation){func(r *api.Relation) { r.Name = "c" }, func(r *api.Relation) { r.Types[0].Rel = "c" }, func(r *api.Relation) { r.Types = nil }, func(r *api.Relation) { r.Rule.Kind++ }, func(r *api.Relation) { r.Rule.Rel = "c" }, func(r *api.Relation) { r.Rule.To = "c" }, func(r *api.Relation) { r.Rule.Args[0].Kind++ }, func(r *api.Relation) { r.Rule.Args = nil }} {
		s := relation()
		if change(&s.Schema.Spaces[0].Relations[0]); Same(s, relation()) || !Same(relation(), relation()) {
			t.Error(i)
		}
	}
	if !Same(Script{}, Script{Events: []api.Event{}, Schema: api.Schema{Spaces: []api.Space{}}}) {
		t.Error("empty lists")
	}
	for n := range 6 {
		s := sample()
		c, e := Cut(s, n)
		if e != api.OK || len(c.Events) != n || cap(c.Events) != n || !Same(c, Script{s.Config, s.Schema, s.Events[:n]}) {
			t.Error(n, e)
		}
		if n > 0 {
			c.Events[0].Bytes[0], c.Config.Clients[0].Rate, c.Schema.Spaces[0].Name = 99, 99, "x"
			if !Same(s, sample()) {
				t.Error("shared")
			}
		}
	}
	w, e := Without(sample(), 1)
	if e != api.OK || len(w.Events) != 4 || w.Events[1].Kind != api.Tick || cap(w.Events) != 4 {
		t.Error(w, e)
	}
	for _, n := range []int{-1, 5, 6} {
		_, e1 := Cut(sample(), n)
		_, e2 := Without(sample(), n)
		if (e1 != api.ErrRange) != (n == 5) || e2 != api.ErrRange {
			t.Error(n, e1, e2)
		}
	}
}

func TestP42_5Run(t *testing.T) {
	s := sample()
	s.Events = append(s.Events, api.Event{Kind: api.Drain}, api.Event{Kind: api.Arrive, Client: 3})
	v, replies, errors, e := Run(s)
	if e != api.OK || v.Time() != 7 || v.Tickets() != 2 || len(replies) != 7 || !slices.Equal(errors, []api.Errno{0, 0, 0, 0, 0, api.ErrState, api.ErrRange}) || cap(replies) != 7 || cap(errors) != 7 {
		t.Error(errors, e)
	}
	if replies[0][0].Kind != api.Malformed || len(replies[2]) != 0 || replies[4][0].Kind != api.Drained || len(replies[5]) != 0 {
		t.Error(replies)
	}
	if v, replies, errors, e := Run(Script{}); v != nil || len(replies) != 0 || len(errors) != 0 || e != api.ErrConfig {
		t.Error(e)
	}
}

func TestP42_6Consequences(t *testing.T) {
	r := rand.New(rand.NewSource(1))
	for range 300 {
		s := sample()
		s.Events = nil
		for range r.Intn(12) {
			b := make([]byte, r.Intn(4))
			r.Read(b)
			s.Events = append(s.Events, []api.Event{{Kind: api.Arrive, Client: r.Intn(16), Bytes: b}, {Kind: api.Tick, N: r.Int63n(1<<62) + 1}, {Kind: api.Work, Lane: r.Intn(2)}, {Kind: api.Stall, Lane: r.Intn(2)}, {Kind: api.Resume, Lane: r.Intn(2)}, {Kind: api.Drain}, {Kind: api.Collect, N: r.Int63n(1<<62) + 1}}[r.Intn(7)])
		}
		text, e := Text(s)
		back, line, e2 := Parse(text)
		again, _ := Text(back)
		if e != api.OK || e2 != api.OK || line != 0 || !Same(back, s) || again != text {
			t.Fatal(text, e, e2)
		}
		_, a, b, _ := Run(s)
		_, c, d, _ := Run(back)
		if !equal(a, c) || !slices.Equal(b, d) {
			t.Fatal("the run")
		}
		cut, _ := Cut(s, len(s.Events)/2)
		if Check(cut) != api.OK || services.Check(cut.Config) != api.OK {
			t.Fatal("Cut")
		}
		if len(s.Events) > 0 {
			if w, _ := Without(s, r.Intn(len(s.Events))); Check(w) != api.OK || len(w.Events) != len(s.Events)-1 {
				t.Fatal("Without")
			}
		}
		// Whatever is read is the text of what was read.
		odd := []byte(text)
		odd[r.Intn(len(odd))] = " \n-0123abz"[r.Intn(10)]
		if x, _, e := Parse(string(odd)); e == api.OK {
			if again, _ := Text(x); again != string(odd) {
				t.Fatal(string(odd))
			}
		}
	}
}
