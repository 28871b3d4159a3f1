package audits

import (
	"math/rand"
	"slices"
	"testing"

	"countersign/api"
	"countersign/names"
	"countersign/parsers"
	"countersign/requests"
	"countersign/scripts"
	"countersign/tuples"
)

const small = "namespace user {} namespace doc { relation viewer: [user]; }"

const large = "namespace doc { relation owner: [user]; relation viewer: [user, group#member] = (this | owner) - banned; relation banned: [user]; } namespace group { relation member: [user, group#member]; } namespace user {}"

func tuple(t *testing.T, s string) api.Tuple {
	t.Helper()
	x, e := tuples.Parse(s)
	if e != api.OK {
		t.Fatal(s, e)
	}
	return x
}

func check(t *testing.T, g, u string) api.Query {
	t.Helper()
	goal, e := names.ParseGoal(g)
	if e != api.OK {
		t.Fatal(g, e)
	}
	return api.Query{Kind: api.Check, Goal: goal, User: api.Object{Space: "user", ID: u}}
}

func arrive(t *testing.T, client int, r api.Request) api.Event {
	t.Helper()
	b, e := requests.Encode(r)
	if e != api.OK {
		t.Fatal(e)
	}
	return api.Event{Kind: api.Arrive, Client: client, Bytes: b}
}

func ask(t *testing.T, l ...api.Query) api.Event {
	return arrive(t, 0, api.Request{Kind: api.Ask, Items: l})
}

func write(t *testing.T, l ...string) api.Event {
	r := api.Request{Kind: api.Write}
	for _, s := range l {
		r.Changes = append(r.Changes, api.Change{Tuple: tuple(t, s)})
	}
	return arrive(t, 0, r)
}

// script returns a script with the configuration of chapter 41.
func script(t *testing.T, flaw uint8, l ...api.Event) scripts.Script {
	t.Helper()
	s, _, _ := parsers.Parse(small)
	c := api.Client{Weight: 1, Rate: 1, Burst: 4}
	return scripts.Script{Config: api.Config{Clients: []api.Client{c, c}, Cap: 4, Classes: 1, Age: 1, Quantum: 2, Budget: 9, Hedge: 1, Flaw: flaw}, Schema: s, Events: l}
}

func works(n int) []api.Event { return slices.Repeat([]api.Event{{Kind: api.Work}}, n) }

func sample(t *testing.T, flaw uint8) scripts.Script {
	q := check(t, "doc:x#viewer", "a")
	return script(t, flaw, append([]api.Event{ask(t, q), write(t, "doc:x#viewer@user:a"), ask(t, q)}, works(6)...)...)
}

func TestP43_1WatchFirst(t *testing.T) {
	q := check(t, "doc:x#viewer", "a")
	if at, rules, e := First(sample(t, 0)); at != 0 || len(rules) != 0 || e != api.ErrNone {
		t.Error(at, rules, e)
	}
	if at, rules, e := First(sample(t, 2)); at != 4 || !slices.Equal(rules, []Rule{Answer}) || e != api.OK {
		t.Error(at, rules, e)
	}
	collect := []api.Event{ask(t, q), write(t, "doc:x#viewer@user:a"), {Kind: api.Collect, N: 1}}
	if at, rules, e := First(script(t, 4, collect...)); at != 2 || !slices.Equal(rules, []Rule{Pinned}) || e != api.OK {
		t.Error(at, rules, e)
	}
	l, e := Watch(script(t, 4, append(collect, api.Event{Kind: api.Work}, api.Event{Kind: api.Work, Lane: 2 - 1}, api.Event{Kind: api.Resume})...))
	if e != api.OK || len(l) != 6 || len(l[1]) != 0 || !slices.Equal(l[2], []Rule{Pinned}) || !slices.Equal(l[4], []Rule{Pinned}) || len(l[5]) != 0 || cap(l) != 6 {
		t.Error(l, e)
	}
	_, e1 := Watch(scripts.Script{})
	_, _, e2 := First(scripts.Script{})
	if l, e := Watch(script(t, 0)); e1 != api.ErrConfig || e2 != api.ErrConfig || len(l) != 0 || e != api.OK {
		t.Error(e1, e2, e)
	}
}

func TestP43_2Measure(t *testing.T) {
	if m, e := Measure(sample(t, 0)); e != api.OK || m != (Totals{Requests: 3, Items: 2, Answers: 2, Writes: 1, Takes: 3, Longest: 6}) {
		t.Error(m, e)
	}
	q := check(t, "doc:x#viewer", "a")
	s := script(t, 0, ask(t, q, q), arrive(t, 0, api.Request{Kind: api.Read}), ask(t, q, q), api.Event{Kind: api.Arrive}, api.Event{Kind: api.Drain, N: 1}, api.Event{Kind: api.Work}, api.Event{Kind: api.Work, Lane: 1}, api.Event{Kind: api.Work, Lane: 1}, api.Event{Kind: api.Work}, api.Event{Kind: api.Arrive, Client: 5})
	s.Events[4] = api.Event{Kind: api.Resume}
	if m, e := Measure(s); e != api.OK || m != (Totals{Requests: 4, Items: 2, Answers: 2, Sheds: 1, Takes: 2, Stale: 1, Longest: 7}) {
		t.Error(m, e)
	}
	s.Config.Budget, s.Config.Quantum = 1, 1
	if m, _ := Measure(s); m.Budgets != 2 || m.Answers != 0 {
		t.Error(m)
	}
	if m, e := Measure(scripts.Script{}); e != api.ErrConfig || m != (Totals{}) {
		t.Error(e)
	}
}

func TestP43_3Bound(t *testing.T) {
	c := script(t, 0).Config
	if n, e := Bound(c); n != 620 || e != api.OK {
		t.Error(n, e)
	}
	c = api.Config{Clients: slices.Repeat([]api.Client{{Weight: 8, Burst: 1}}, 16), Cap: 64, Classes: 8, Age: 64, Quantum: 1, Budget: 1 << 20, Hedge: 64}
	if n, e := Bound(c); n != 68*128*(513+2*(1<<20+1)*65) || e != api.OK {
		t.Error(n, e)
	}
	if n, e := Bound(api.Config{}); n != 0 || e != api.ErrConfig {
		t.Error(e)
	}
}

func TestP43_4Title(t *testing.T) {
	for r, want := range map[Rule]string{0: "", 1: "Answer", 2: "Once", 3: "Admit", 4: "Shed", 5: "Order", 6: "Fair", 7: "Pinned", 8: "Store", 9: "Drain", 10: "", 255: ""} {
		if Title(r) != want {
			t.Error(r)
		}
	}
	if Answer != 1 || Drain != 9 {
		t.Error("numbers")
	}
}

// random returns a script.
func random(t *testing.T, r *rand.Rand, flaw uint8) scripts.Script {
	t.Helper()
	s, _, _ := parsers.Parse(large)
	c := api.Config{Cap: r.Intn(5) + 1, Classes: r.Intn(3) + 1, Age: r.Intn(3) + 1, Quantum: r.Intn(5) + 1, Budget: r.Intn(50) + 3, Hedge: r.Intn(4), Flaw: flaw}
	for range r.Intn(3) + 1 {
		c.Clients = append(c.Clients, api.Client{Weight: r.Intn(3) + 1, Rate: r.Int63n(3), Burst: r.Int63n(9) + 1})
	}
	id := func() string { return string(rune('a' + r.Intn(2))) }
	out := scripts.Script{Config: c, Schema: s}
	for range 60 {
		client := r.Intn(len(c.Clients))
		x := api.Event{Kind: api.Work, Lane: r.Intn(2)}
		switch r.Intn(14) {
		case 0, 1, 2:
			q := check(t, []string{"doc:" + id() + "#viewer", "group:" + id() + "#member"}[r.Intn(2)], id())
			if r.Intn(3) == 0 {
				q.Kind, q.User = api.Expand, api.Object{}
			}
			x = arrive(t, client, api.Request{Kind: api.Ask, Class: uint8(r.Intn(c.Classes)), Rev: uint64(r.Intn(4)), Items: slices.Repeat([]api.Query{q}, r.Intn(2)+1)})
		case 3, 4:
			facts := []string{"doc:" + id() + "#viewer@user:" + id(), "doc:" + id() + "#viewer@group:" + id() + "#member", "doc:" + id() + "#banned@user:" + id(), "group:" + id() + "#member@user:" + id(), "group:" + id() + "#member@group:" + id() + "#member"}
			f := facts[r.Intn(5)]
			x = arrive(t, client, api.Request{Kind: api.Write, Musts: []api.Must{{Tuple: tuple(t, f), Not: r.Intn(3) > 0}}, Changes: []api.Change{{Tuple: tuple(t, f), Drop: r.Intn(3) == 0}}})
		case 5:
			x = arrive(t, client, api.Request{Kind: api.Read, Rev: uint64(r.Intn(3)), Filter: api.Filter{Space: "doc"}})
		case 6:
			x = api.Event{Kind: api.Collect, N: int64(r.Intn(3) + 1)}
		case 7:
			x = api.Event{Kind: api.Tick, N: int64(r.Intn(4) + 1)}
		case 8:
			x = api.Event{Kind: []uint8{api.Stall, api.Resume}[r.Intn(2)], Lane: r.Intn(2)}
		case 9:
			if r.Intn(9) == 0 {
				x = api.Event{Kind: api.Drain}
			}
		}
		out.Events = append(out.Events, x)
	}
	return out
}

func TestP43_5Consequences(t *testing.T) {
	may := [][]Rule{{}, {Answer}, {Answer}, {Admit, Shed}, {Pinned}, {Shed}, {Order}}
	for flaw, rules := range may {
		r := rand.New(rand.NewSource(int64(flaw)))
		broken := 0
		for range 60 {
			s := random(t, r, uint8(flaw))
			l, e := Watch(s)
			if e != api.OK {
				t.Fatal(e)
			}
			first := -1
			for i, broke := range l {
				for _, x := range broke {
					if !slices.Contains(rules, x) {
						t.Fatal(flaw, i, Title(x))
					}
				}
				if len(broke) > 0 && first < 0 {
					first, broken = i, broken+1
				}
			}
			at, found, e := First(s)
			if first < 0 && e != api.ErrNone || first >= 0 && (at != first || !slices.Equal(found, l[at])) {
				t.Fatal(at, first, e)
			}
			m, _ := Measure(s)
			bound, _ := Bound(s.Config)
			if m.Answers+m.Budgets > m.Items || m.Stale > m.Takes {
				t.Fatal(m)
			}
			s.Config.Flaw, s.Events = 0, append(s.Events, works(int(min(bound, 300)))...)
			if !slices.ContainsFunc(s.Events, func(x api.Event) bool { return x.Kind == api.Stall && x.Lane == 0 }) && bound <= 300 {
				if m, _ := Measure(s); m.Answers+m.Budgets != m.Items {
					t.Fatal("not replied to within the bound")
				}
			}
		}
		if flaw > 0 && flaw != 6 && flaw != 1 && broken == 0 {
			t.Error("never broken", flaw)
		}
	}
}
