package services

import (
	"fmt"
	"math/rand"
	"slices"
	"strings"
	"testing"

	"countersign/api"
	"countersign/flights"
	"countersign/models"
	"countersign/names"
	"countersign/parsers"
	"countersign/reaches"
	"countersign/requests"
	"countersign/tuples"
)

// equal reports whether two values are equal; lists that are nil and empty are.
func equal(a, b any) bool { return fmt.Sprint(a) == fmt.Sprint(b) }

const small = "namespace user {} namespace doc { relation viewer: [user]; }"

const large = "namespace doc { relation owner: [user]; relation viewer: [user, group#member] = (this | owner) - banned; relation banned: [user]; } namespace group { relation member: [user, group#member]; } namespace user {}"

func schema(t *testing.T, text string) api.Schema {
	t.Helper()
	s, _, e := parsers.Parse(text)
	if e != api.OK {
		t.Fatal(e)
	}
	return s
}

func config() api.Config {
	c := api.Client{Weight: 1, Rate: 1, Burst: 4}
	return api.Config{Clients: []api.Client{c, c}, Cap: 4, Classes: 1, Age: 1, Quantum: 2, Budget: 9, Hedge: 1}
}

func service(t *testing.T, c api.Config, text string) *Service {
	t.Helper()
	v, e := New(c, schema(t, text))
	if e != api.OK {
		t.Fatal(e)
	}
	return v
}

func tuple(t *testing.T, s string) api.Tuple {
	t.Helper()
	x, e := tuples.Parse(s)
	if e != api.OK {
		t.Fatal(s, e)
	}
	return x
}

func check(t *testing.T, g, u string) api.Query {
	t.Helper()
	goal, e := names.ParseGoal(g)
	if e != api.OK {
		t.Fatal(g, e)
	}
	return api.Query{Kind: api.Check, Goal: goal, User: api.Object{Space: "user", ID: u}}
}

func arrive(t *testing.T, client int, r api.Request) api.Event {
	t.Helper()
	b, e := requests.Encode(r)
	if e != api.OK {
		t.Fatal(e)
	}
	return api.Event{Kind: api.Arrive, Client: client, Bytes: b}
}

// ask is an Ask at a revision.
func ask(t *testing.T, client int, rev uint64, l ...api.Query) api.Event {
	return arrive(t, client, api.Request{Kind: api.Ask, Rev: rev, Items: l})
}

// write is a Write of tuples.
func write(t *testing.T, client int, l ...string) api.Event {
	r := api.Request{Kind: api.Write}
	for _, s := range l {
		r.Changes = append(r.Changes, api.Change{Tuple: tuple(t, s)})
	}
	return arrive(t, client, r)
}

func work(lane int) api.Event { return api.Event{Kind: api.Work, Lane: lane} }

// texts returns the texts of replies.
func texts(t *testing.T, l []api.Reply) string {
	t.Helper()
	var out []string
	for _, r := range l {
		s, e := requests.Text(r)
		if e != api.OK {
			t.Fatal(r, e)
		}
		out = append(out, s)
	}
	return strings.Join(out, ", ")
}

// play does events, and returns the texts of the replies.
func play(t *testing.T, v *Service, l ...api.Event) string {
	t.Helper()
	var out []string
	for i, x := range l {
		r, e := v.Do(x)
		if e != api.OK {
			t.Fatal(i, e)
		}
		out = append(out, texts(t, r))
	}
	return strings.Join(out, "; ")
}

func expect(t *testing.T, got, want string) {
	t.Helper()
	if got != want {
		t.Errorf("got %q, not %q", got, want)
	}
}

func TestP41_1CheckNew(t *testing.T) {
	if Check(config()) != api.OK {
		t.Error("a valid configuration")
	}
	least := api.Config{Clients: []api.Client{{Weight: 1, Burst: 1}}, Cap: 1, Classes: 1, Age: 1, Quantum: 1, Budget: 1}
	most := api.Config{Clients: slices.Repeat([]api.Client{{Weight: 8, Rate: 1 << 31, Burst: 1 << 31}}, 16), Cap: 64, Classes: 8, Age: 64, Quantum: 65536, Budget: 1 << 20, Hedge: 64, Flaw: 6}
	if Check(least) != api.OK || Check(most) != api.OK {
		t.Error("the least and the most")
	}
	for i, change := range []func(c *api.Config){
		func(c *api.Config) { c.Clients = nil }, func(c *api.Config) { c.Clients = slices.Repeat(c.Clients, 9) }, func(c *api.Config) { c.Clients[1].Weight = 0 }, func(c *api.Config) { c.Clients[1].Weight = 9 }, func(c *api.Config) { c.Clients[1].Rate = -1 }, func(c *api.Config) { c.Clients[1].Burst = 0 }, func(c *api.Config) { c.Cap = 0 }, func(c *api.Config) { c.Cap = 65 }, func(c *api.Config) { c.Classes = 0 }, func(c *api.Config) { c.Classes = 9 },
		func(c *api.Config) { c.Age = 0 }, func(c *api.Config) { c.Age = 65 }, func(c *api.Config) { c.Quantum = 0 }, func(c *api.Config) { c.Quantum = 65537 }, func(c *api.Config) { c.Budget = 0 }, func(c *api.Config) { c.Budget = 1<<20 + 1 }, func(c *api.Config) { c.Hedge = -1 }, func(c *api.Config) { c.Hedge = 65 }, func(c *api.Config) { c.Flaw = 7 },
	} {
		c := config()
		change(&c)
		if v, e := New(c, schema(t, "namespace a { relation b; }")); Check(c) != api.ErrConfig || e != api.ErrConfig || v != nil {
			t.Error(i, e)
		}
	}
	_, e1 := New(config(), schema(t, "namespace a { relation b; }"))
	_, e2 := New(config(), schema(t, "namespace a { relation b: [a] = this - b; }"))
	if e1 != api.ErrType || e2 != api.ErrStrata {
		t.Error(e1, e2)
	}
	c, s := config(), schema(t, small)
	v, _ := New(c, s)
	c.Clients[0].Weight, s.Spaces[1].Relations[0].Types[0].Space = 5, "doc"
	if v.Config().Clients[0].Weight != 1 {
		t.Error("the configuration was kept")
	}
	expect(t, play(t, v, write(t, 0, "doc:x#viewer@user:a")), "0.0 0 wrote 2")
	if v.Time() != 0 || v.Tickets() != 1 || v.Draining() || v.Lanes().Works != 0 || v.Turns().Credit != 1 {
		t.Error("at the beginning")
	}
}

func TestP41_2Do(t *testing.T) {
	v := service(t, config(), small)
	q := check(t, "doc:x#viewer", "a")
	expect(t, play(t, v, ask(t, 0, 0, q), work(0), work(0)), "; ; 0.0 0 answer 1 no")
	expect(t, play(t, v, write(t, 1, "doc:x#viewer@user:a"), ask(t, 0, 1, q), ask(t, 0, 0, q)), "1.0 1 wrote 2; ; ")
	expect(t, play(t, v, work(0), work(1)), "; ")
	if l := v.Lanes(); l.Lane[0].ID != 1 || l.Lane[1].ID != 1 {
		t.Error("both lanes hold the first flight", l)
	}
	expect(t, play(t, v, work(0), work(1), work(0), work(0), work(0), work(0)), "2.0 0 answer 1 no; ; ; ; ; 3.0 0 answer 2 yes")
	expect(t, play(t, v, ask(t, 0, 0, q, q), api.Event{Kind: api.Tick, N: 1}, ask(t, 0, 0, q, q)), "4.0 0 shed 0 1; ; ")
	expect(t, play(t, v, api.Event{Kind: api.Drain}, arrive(t, 1, api.Request{Kind: api.Read}), work(0), work(0), work(0), work(0)), "; 6.0 1 draining 0; ; ; ; 5.0 0 answer 2 yes, 5.1 0 answer 2 yes, -1.0 -1 drained 0")
	for i, x := range []struct {
		x api.Event
		e api.Errno
	}{
		{api.Event{Kind: api.Drain}, api.ErrState}, {api.Event{Kind: api.Work, Lane: 2}, api.ErrRange}, {api.Event{Kind: api.Tick}, api.ErrRange}, {api.Event{}, api.ErrKind}, {api.Event{Kind: 8, N: 5}, api.ErrKind}, {api.Event{Kind: api.Arrive, N: 1, Client: 9}, api.ErrForm}, {api.Event{Kind: api.Arrive, Lane: 1}, api.ErrForm}, {api.Event{Kind: api.Arrive, Client: 2}, api.ErrRange}, {api.Event{Kind: api.Arrive, Client: -1}, api.ErrRange},
		{api.Event{Kind: api.Arrive, Client: 2, Bytes: make([]byte, 65537)}, api.ErrRange}, {api.Event{Kind: api.Arrive, Bytes: make([]byte, 65537)}, api.ErrLimit}, {api.Event{Kind: api.Tick, N: 1<<62 + 1}, api.ErrRange}, {api.Event{Kind: api.Tick, N: 1, Client: 1}, api.ErrForm}, {api.Event{Kind: api.Tick, N: 1, Bytes: []byte{1}}, api.ErrForm}, {api.Event{Kind: api.Tick, N: 1, Lane: 1}, api.ErrForm}, {api.Event{Kind: api.Collect, N: 1025}, api.ErrRange}, {api.Event{Kind: api.Collect}, api.ErrRange},
		{api.Event{Kind: api.Collect, N: 1, Lane: 3}, api.ErrForm}, {api.Event{Kind: api.Work, N: 1}, api.ErrForm}, {api.Event{Kind: api.Stall, Lane: -1}, api.ErrRange}, {api.Event{Kind: api.Resume}, api.ErrState}, {api.Event{Kind: api.Drain, Lane: 1}, api.ErrForm}, {api.Event{Kind: api.Drain, N: 1}, api.ErrForm}, {api.Event{Kind: api.Resume, Client: 1}, api.ErrForm},
	} {
		before := v.Copy()
		if r, e := v.Do(x.x); e != x.e || len(r) != 0 || !equal(seen(before), seen(v)) {
			t.Error(i, e)
		}
	}
	if _, e := v.Do(api.Event{Kind: api.Stall, Lane: 1}); e != api.OK {
		t.Error(e)
	}
	if _, e := v.Do(api.Event{Kind: api.Stall, Lane: 1}); e != api.ErrState {
		t.Error(e)
	}
	if r, e := service(t, config(), small).Do(api.Event{Kind: api.Arrive, Bytes: make([]byte, 65536)}); e != api.OK || texts(t, r) != "0.0 0 malformed 0" {
		t.Error(r, e)
	}
	if _, e := service(t, config(), small).Do(api.Event{Kind: api.Collect, N: 1024}); e != api.OK {
		t.Error(e)
	}
	if r, e := service(t, config(), small).Do(api.Event{Kind: api.Drain}); e != api.OK || texts(t, r) != "-1.0 -1 drained 0" {
		t.Error(r, e)
	}
}

func TestP41_2Arrivals(t *testing.T) {
	v := service(t, config(), small)
	q := check(t, "doc:x#viewer", "a")
	bad := arrive(t, 1, api.Request{Kind: api.Ask, Class: 1, Items: []api.Query{q}})
	expect(t, play(t, v, api.Event{Kind: api.Arrive}, bad, ask(t, 1, 2, q), ask(t, 1, 0, q, q, q, q, q)), "0.0 0 malformed 0; 1.0 1 malformed 0; 2.0 1 unknown 2; 3.0 1 shed 0 -1")
	must := arrive(t, 1, api.Request{Kind: api.Write, Musts: []api.Must{{Tuple: tuple(t, "doc:x#viewer@user:a")}}})
	expect(t, play(t, v, must, write(t, 1, "doc:x#viewer@user:b", "doc:x#viewer@user:a"), must), "4.0 1 failed 1; 5.0 1 wrote 2; 6.0 1 wrote 3")
	filter := api.Filter{Subject: api.Subject{Object: q.User}, Exact: true}
	expect(t, play(t, v, arrive(t, 0, api.Request{Kind: api.Read}), arrive(t, 0, api.Request{Kind: api.Read, Rev: 2, Filter: filter}), arrive(t, 0, api.Request{Kind: api.Read, Rev: 9}), arrive(t, 0, api.Request{Kind: api.Read, Rev: 1})), "7.0 0 told 3 doc:x#viewer@user:a doc:x#viewer@user:b; 8.0 0 told 2 doc:x#viewer@user:a; 9.0 0 unknown 9; 10.0 0 told 1")
	c := config()
	c.Budget, c.Clients[0].Burst = 2, 9
	v = service(t, c, small)
	expand := q
	expand.Kind, expand.User = api.Expand, api.Object{}
	expect(t, play(t, v, ask(t, 0, 0, expand, q), write(t, 0, "doc:x#viewer@user:a"), ask(t, 0, 0, q)), "; 1.0 0 wrote 2; ")
	expect(t, play(t, v, work(0), work(0), work(1), work(1), work(0), work(0)), "; 0.0 0 listed 1; ; 0.1 0 answer 1 no; ; 2.0 0 budget 2")
}

func TestP41_3WhatThereIs(t *testing.T) {
	v := service(t, config(), small)
	q := check(t, "doc:x#viewer", "a")
	play(t, v, ask(t, 0, 0, q, q), write(t, 1, "doc:x#viewer@user:a"), ask(t, 1, 0, q), work(1), api.Event{Kind: api.Tick, N: 1 << 62}, api.Event{Kind: api.Tick, N: 5})
	if v.Time() != 1<<62 || v.Tickets() != 3 || v.Waiting(0) != 2 || v.Waiting(1) != 1 || v.Waiting(2) != 0 || v.Waiting(-1) != 0 {
		t.Error(v.Time(), v.Tickets(), v.Waiting(0))
	}
	if !slices.Equal(v.Kept(), []uint64{1, 2}) || !slices.Equal(v.Pins(), []flights.Pin{{Rev: 1, N: 2}, {Rev: 2, N: 1}}) || cap(v.Pins()) != 2 {
		t.Error(v.Kept(), v.Pins())
	}
	f := v.Flights()
	if flights.Check(f) != api.OK || len(f.Flights) != 2 || len(f.Flights[0].Items) != 2 || f.Next != 2 {
		t.Error(f)
	}
	f.Flights[0].Items[0].Ticket, f.Flights[1].Rev = 99, 99
	if v.Flights().Flights[0].Items[0].Ticket != 0 || v.Flights().Flights[1].Rev != 2 {
		t.Error("shared")
	}
	c, w := v.Config(), v.Turns()
	c.Clients[0].Weight, w.Weights[0] = 9, 9
	if v.Config().Clients[0].Weight != 1 || v.Turns().Weights[0] != 1 {
		t.Error("shared")
	}
	if l := v.Lanes(); !l.Lane[1].Held || l.Lane[0].Held || l.Works != 1 {
		t.Error(l)
	}
	if g, e := v.Gate(0); e != api.OK || g.Waiting != 2 || g.Bucket.Tokens != 2 {
		t.Error(g, e)
	}
	for _, client := range []int{-1, 2} {
		if _, e := v.Gate(client); e != api.ErrRange {
			t.Error(e)
		}
	}
	if s, e := v.Set(2); e != api.OK || s.Len() != 1 {
		t.Error(e)
	}
	if _, e := v.Set(3); e != api.ErrRevision {
		t.Error(e)
	}
	for _, none := range []*Service{nil, {}} {
		_, e1 := none.Do(api.Event{})
		_, e2 := none.Gate(0)
		_, e3 := none.Set(0)
		if e1 != api.ErrNil || e2 != api.ErrNil || e3 != api.ErrNil || none.Copy() != nil || len(none.Kept()) != 0 || len(none.Pins()) != 0 || none.Time() != 0 || none.Tickets() != 0 || none.Draining() || none.Waiting(0) != 0 || none.Config().Cap != 0 || len(none.Flights().Flights) != 0 || none.Lanes().Works != 0 || none.Turns().Weights != nil {
			t.Error("no service")
		}
	}
}

// seen is all that can be seen of a service.
func seen(v *Service) []any {
	out := []any{v.Config(), v.Time(), v.Tickets(), v.Draining(), v.Kept(), v.Pins(), v.Flights(), v.Lanes(), v.Turns()}
	for i := range v.Config().Clients {
		g, _ := v.Gate(i)
		out = append(out, g, v.Waiting(i))
	}
	for _, rev := range v.Kept() {
		s, _ := v.Set(rev)
		out = append(out, s.List())
	}
	return out
}

// random returns an event.
func random(t *testing.T, r *rand.Rand, c api.Config) api.Event {
	t.Helper()
	id := func() string { return string(rune('a' + r.Intn(3))) }
	goals := []string{"doc:" + id() + "#viewer", "group:" + id() + "#member", "doc:" + id() + "#owner"}
	client := r.Intn(len(c.Clients))
	switch r.Intn(14) {
	case 0, 1, 2:
		var l []api.Query
		for range r.Intn(3) + 1 {
			q := check(t, goals[r.Intn(3)], id())
			if r.Intn(3) == 0 {
				q.Kind, q.User = api.Expand, api.Object{}
			}
			l = append(l, q)
		}
		return arrive(t, client, api.Request{Kind: api.Ask, Class: uint8(r.Intn(c.Classes)), Rev: uint64(r.Intn(4)), Items: l})
	case 3, 4:
		facts := []string{"doc:" + id() + "#viewer@user:" + id(), "doc:" + id() + "#viewer@group:" + id() + "#member", "doc:" + id() + "#owner@user:" + id(), "doc:" + id() + "#banned@user:" + id(), "group:" + id() + "#member@user:" + id(), "group:" + id() + "#member@group:" + id() + "#member"}
		return write(t, client, facts[r.Intn(6)], facts[r.Intn(6)])
	case 5:
		return arrive(t, client, api.Request{Kind: api.Read, Rev: uint64(r.Intn(4))})
	case 6:
		return api.Event{Kind: api.Collect, N: int64(r.Intn(3) + 1)}
	case 7:
		return api.Event{Kind: api.Tick, N: int64(r.Intn(4) + 1)}
	case 8:
		return api.Event{Kind: []uint8{api.Stall, api.Resume}[r.Intn(2)], Lane: r.Intn(2)}
	}
	return work(r.Intn(2))
}

func TestP41_4Copy(t *testing.T) {
	r := rand.New(rand.NewSource(2))
	c := config()
	v := service(t, c, large)
	for range 300 {
		w := v.Copy()
		before := seen(v)
		if !equal(before, seen(w)) {
			t.Fatal("not equal")
		}
		for range 5 {
			w.Do(random(t, r, c))
		}
		if !equal(before, seen(v)) {
			t.Fatal("shared")
		}
		v.Do(random(t, r, c))
	}
}

func TestP41_5Consequences(t *testing.T) {
	s := schema(t, large)
	for seed := range int64(25) {
		r := rand.New(rand.NewSource(seed))
		c := config()
		c.Classes, c.Age, c.Quantum, c.Budget, c.Hedge = r.Intn(3)+1, r.Intn(3)+1, r.Intn(6)+1, r.Intn(60)+5, r.Intn(4)
		c.Clients[1].Weight, c.Clients[0].Burst, c.Clients[0].Rate = r.Intn(3)+1, 9, 3
		v, again := service(t, c, large), service(t, c, large)
		type item struct{ ticket, item int }
		type wait struct {
			q     api.Query
			rev   uint64
			facts []api.Tuple
		}
		waits := map[item]wait{}
		drained := 0
		do := func(x api.Event) {
			ticket := v.Tickets()
			replies, e := v.Do(x)
			twin, e2 := again.Do(x)
			if e != e2 || !equal(replies, twin) {
				t.Fatal("the same events")
			}
			if e != api.OK {
				return
			}
			req, _, _ := requests.Decode(x.Bytes)
			if x.Kind == api.Arrive && req.Kind == api.Ask && len(replies) == 0 {
				set, _ := v.Set(req.Rev)
				rev := req.Rev
				if rev == 0 {
					rev = slices.Max(v.Kept())
				}
				for i, q := range req.Items {
					waits[item{ticket, i}] = wait{q, rev, set.List()}
				}
			}
			for _, y := range replies {
				if y.Kind == api.Drained {
					drained++
				}
				w, found := waits[item{y.Ticket, y.Item}]
				if !found {
					continue
				}
				delete(waits, item{y.Ticket, y.Item})
				cost, _ := reaches.Cost(s, w.facts, w.q)
				yes, _ := models.Check(s, w.facts, w.q.Goal, api.Object{Space: "user", ID: max(w.q.User.ID, "a")})
				users, _ := models.Expand(s, w.facts, w.q.Goal)
				want := api.Reply{Ticket: y.Ticket, Item: y.Item, Client: y.Client, Rev: w.rev, Kind: api.Budget}
				if cost <= c.Budget && w.q.Kind == api.Check {
					want.Kind, want.Yes = api.Answer, yes
				} else if cost <= c.Budget {
					want.Kind, want.Users = api.Listed, users
				}
				if !requests.SameReply(y, want) {
					t.Fatal(seed, y, want)
				}
			}
			pins := map[uint64]int{}
			for _, w := range waits {
				pins[w.rev]++
			}
			for _, p := range v.Pins() {
				if _, e := v.Set(p.Rev); e != api.OK || pins[p.Rev] != p.N {
					t.Fatal("pins")
				}
				delete(pins, p.Rev)
			}
			for i := range c.Clients {
				if g, _ := v.Gate(i); g.Waiting != v.Waiting(i) || g.Waiting > c.Cap {
					t.Fatal("what waits")
				}
			}
			if len(pins) > 0 {
				t.Fatal("not pinned")
			}
		}
		for range 250 {
			do(random(t, r, c))
		}
		for _, lane := range []int{0, 1} {
			do(api.Event{Kind: api.Resume, Lane: lane})
		}
		do(api.Event{Kind: api.Drain})
		for range 1000 {
			do(work(r.Intn(2)))
		}
		if len(waits) > 0 || len(v.Pins()) > 0 || drained != 1 {
			t.Fatal("items still wait")
		}
	}
}

// mutant returns a service with a flaw and one client.
func mutant(t *testing.T, flaw uint8) *Service {
	t.Helper()
	return service(t, api.Config{Clients: []api.Client{{Weight: 1, Rate: 1, Burst: 6}}, Cap: 5, Classes: 2, Age: 1, Quantum: 1, Budget: 3, Flaw: flaw}, small)
}

func TestP41_2Flaws(t *testing.T) {
	a := check(t, "doc:x#viewer", "a")
	put := write(t, 0, "doc:x#viewer@user:a")
	stale := []api.Event{put, ask(t, 0, 0, a), work(0), work(1), work(0), work(1), work(0), work(0), work(0), work(0)}
	expect(t, play(t, mutant(t, 0), stale...), "0.0 0 wrote 2; ; ; ; ; ; ; ; ; 1.0 0 answer 2 yes")
	expect(t, play(t, mutant(t, 1), stale...), "0.0 0 wrote 2; ; ; ; ; ; ; 1.0 0 budget 2; ; ")
	loose := []api.Event{ask(t, 0, 0, a), put, ask(t, 0, 0, a), work(0), work(0), work(0), work(0)}
	expect(t, play(t, mutant(t, 0), loose...), "; 1.0 0 wrote 2; ; ; ; ; 0.0 0 answer 1 no")
	expect(t, play(t, mutant(t, 2), loose...), "; 1.0 0 wrote 2; ; ; ; ; 0.0 0 answer 1 no, 2.0 0 answer 2 no")
	read := arrive(t, 0, api.Request{Kind: api.Read})
	reads := append([]api.Event{{Kind: api.Tick, N: 1}}, slices.Repeat([]api.Event{read}, 7)...)
	if s := play(t, mutant(t, 0), reads...); !strings.HasSuffix(s, "6.0 0 shed 0 1") {
		t.Error(s)
	}
	if s := play(t, mutant(t, 3), reads...); !strings.HasSuffix(s, "6.0 0 told 1") {
		t.Error(s)
	}
	if s := play(t, mutant(t, 5), reads...); !strings.HasSuffix(s, "6.0 0 shed 0 0") {
		t.Error(s)
	}
	v := mutant(t, 4)
	expect(t, play(t, v, ask(t, 0, 0, a), put, api.Event{Kind: api.Collect, N: 1}), "; 1.0 0 wrote 2; ")
	if !slices.Equal(v.Kept(), []uint64{2}) || len(v.Pins()) != 0 {
		t.Error(v.Kept(), v.Pins())
	}
	expect(t, play(t, v, work(0), work(0), work(0), work(0)), "; ; ; 0.0 0 answer 1 no")
	if g, _ := v.Gate(0); g.Waiting != 0 {
		t.Error("not released")
	}
	low := arrive(t, 0, api.Request{Kind: api.Ask, Class: 1, Items: []api.Query{check(t, "doc:x#viewer", "b")}})
	classes := []api.Event{ask(t, 0, 0, a), low, ask(t, 0, 0, check(t, "doc:x#viewer", "c")), work(0), work(0), work(0), work(0), work(0)}
	v, w := mutant(t, 0), mutant(t, 6)
	play(t, v, classes...)
	play(t, w, classes...)
	if v.Lanes().Lane[0].ID != 1 || w.Lanes().Lane[0].ID != 2 {
		t.Error(v.Lanes(), w.Lanes())
	}
}
