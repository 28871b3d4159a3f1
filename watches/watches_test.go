package watches

import (
	"slices"
	"testing"

	"countersign/api"
	"countersign/flights"
	"countersign/names"
	"countersign/parsers"
	"countersign/requests"
	"countersign/scripts"
	"countersign/tuples"
)

const small = "namespace user {} namespace doc { relation viewer: [user]; }"

func tuple(t *testing.T, s string) api.Tuple {
	t.Helper()
	x, e := tuples.Parse(s)
	if e != api.OK {
		t.Fatal(s, e)
	}
	return x
}

func check(t *testing.T, g, u string) api.Query {
	t.Helper()
	goal, e := names.ParseGoal(g)
	if e != api.OK {
		t.Fatal(g, e)
	}
	return api.Query{Kind: api.Check, Goal: goal, User: api.Object{Space: "user", ID: u}}
}

func arrive(t *testing.T, client int, r api.Request) api.Event {
	t.Helper()
	b, e := requests.Encode(r)
	if e != api.OK {
		t.Fatal(e)
	}
	return api.Event{Kind: api.Arrive, Client: client, Bytes: b}
}

func ask(t *testing.T, l ...api.Query) api.Event {
	return arrive(t, 0, api.Request{Kind: api.Ask, Items: l})
}

func write(t *testing.T, l ...string) api.Event {
	r := api.Request{Kind: api.Write}
	for _, s := range l {
		r.Changes = append(r.Changes, api.Change{Tuple: tuple(t, s)})
	}
	return arrive(t, 0, r)
}

// script returns a script with the configuration of chapter 41.
func script(l ...api.Event) scripts.Script {
	s, _, _ := parsers.Parse(small)
	c := api.Client{Weight: 1, Rate: 1, Burst: 4}
	return scripts.Script{Config: api.Config{Clients: []api.Client{c, c}, Cap: 4, Classes: 1, Age: 1, Quantum: 2, Budget: 9, Hedge: 1}, Schema: s, Events: l}
}

// broken returns the rules that a moment breaks which is changed behind an event.
func broken(t *testing.T, s scripts.Script, at int, change func(w *Watch, m *Moment)) (out []string) {
	t.Helper()
	Run(s, func(i int, w *Watch, m Moment) bool {
		if i == at {
			change(w, &m)
			for _, x := range []struct {
				name   string
				broken func(w *Watch, m Moment) bool
			}{{"Answer", WrongAnswer}, {"Once", AnsweredAgain}, {"Admit", AdmittedWithoutTokens}, {"Shed", ShedWrongly}, {"Order", Overtaken}, {"Fair", Unfair}, {"Pinned", NotPinned}, {"Store", WrongStore}, {"Drain", WrongDrain}} {
				if x.broken(w, m) {
					out = append(out, x.name)
				}
			}
		}
		return i != at
	})
	return out
}

func TestP43_1Rules(t *testing.T) {
	q := check(t, "doc:x#viewer", "a")
	s := script(ask(t, q), write(t, "doc:x#viewer@user:a"), api.Event{Kind: api.Work}, api.Event{Kind: api.Work}, arrive(t, 0, api.Request{Kind: api.Read}), arrive(t, 0, api.Request{Kind: api.Read, Rev: 1}), arrive(t, 0, api.Request{Kind: api.Read}), api.Event{Kind: api.Drain}, arrive(t, 1, api.Request{Kind: api.Read}))
	for i, x := range []struct {
		at     int
		change func(w *Watch, m *Moment)
		want   []string
	}{
		{3, func(w *Watch, m *Moment) {}, nil},
		{3, func(w *Watch, m *Moment) { m.Replies[0].Yes = true }, []string{"Answer"}},
		{3, func(w *Watch, m *Moment) { m.Replies[0].Rev = 2 }, []string{"Answer"}},
		{3, func(w *Watch, m *Moment) { m.Replies[0].Client = 1 }, []string{"Answer"}},
		{3, func(w *Watch, m *Moment) { m.Replies[0].Kind = api.Budget }, []string{"Answer"}},
		{3, func(w *Watch, m *Moment) { m.Replies = append(m.Replies, m.Replies[0]) }, []string{"Once"}},
		{3, func(w *Watch, m *Moment) { m.Replies[0].Item = 1 }, []string{"Once", "Pinned"}},
		{0, func(w *Watch, m *Moment) { w.buckets[0].Tokens = 0 }, []string{"Admit"}},
		{6, func(w *Watch, m *Moment) { m.Replies[0].After = 2 }, []string{"Shed"}},
		{6, func(w *Watch, m *Moment) { w.buckets[0].Tokens = 1 }, []string{"Shed"}},
		{2, func(w *Watch, m *Moment) {
			m.flights.Flights = append([]flights.Flight{{ID: -1, Since: -1}}, m.flights.Flights...)
			m.eligible = append(m.eligible, -1)
		}, []string{"Order"}},
		{2, func(w *Watch, m *Moment) {
			m.flights.Flights = append([]flights.Flight{{ID: -1, Since: 0}}, m.flights.Flights...)
			m.eligible = append(m.eligible, -1)
		}, nil},
		{2, func(w *Watch, m *Moment) {
			m.flights.Flights = append(m.flights.Flights, flights.Flight{ID: 9, Client: 1})
			m.eligible = append(m.eligible, 9)
			w.takes = slices.Repeat([]take{{[]bool{true, true}, 0}}, 2)
		}, []string{"Fair"}},
		{2, func(w *Watch, m *Moment) {
			m.flights.Flights = append(m.flights.Flights, flights.Flight{ID: 9, Client: 1})
			m.eligible = append(m.eligible, 9)
			w.takes = []take{{[]bool{true, true}, 0}, {[]bool{true, false}, 0}, {[]bool{true, true}, 0}}
		}, nil},
		{2, func(w *Watch, m *Moment) { w.waits = map[item]wait{} }, []string{"Pinned"}},
		{2, func(w *Watch, m *Moment) { w.waits[item{9, 9}] = wait{rev: 1} }, []string{"Pinned"}},
		{2, func(w *Watch, m *Moment) { w.waits[item{9, 9}] = wait{rev: 7} }, []string{"Pinned"}},
		{2, func(w *Watch, m *Moment) { w.sets[1] = w.sets[2] }, []string{"Store"}},
		{2, func(w *Watch, m *Moment) { m.newest = 1 }, []string{"Store"}},
		{1, func(w *Watch, m *Moment) { m.Replies[0].Rev = 1 }, []string{"Store"}},
		{1, func(w *Watch, m *Moment) { m.Request.Changes[0].Drop = true }, []string{"Store"}},
		{1, func(w *Watch, m *Moment) { m.Request.Musts = []api.Must{{Tuple: m.Request.Changes[0].Tuple}} }, []string{"Store"}},
		{4, func(w *Watch, m *Moment) { m.Replies[0].Tuples = nil }, []string{"Store"}},
		{5, func(w *Watch, m *Moment) { m.Replies[0].Tuples = make([]api.Tuple, 1) }, []string{"Store"}},
		{7, func(w *Watch, m *Moment) {}, nil},
		{7, func(w *Watch, m *Moment) { m.Replies = nil }, []string{"Drain"}},
		{7, func(w *Watch, m *Moment) { m.Replies = append(m.Replies, m.Replies[0]) }, []string{"Drain"}},
		{7, func(w *Watch, m *Moment) { w.drained = true }, []string{"Drain"}},
		{8, func(w *Watch, m *Moment) {}, nil},
		{8, func(w *Watch, m *Moment) { m.draining = false }, []string{"Drain"}},
		{4, func(w *Watch, m *Moment) { m.draining = true }, []string{"Drain"}},
		{8, func(w *Watch, m *Moment) {
			m.Replies = append(m.Replies, api.Reply{Ticket: -1, Client: -1, Kind: api.Drained})
		}, []string{"Drain"}},
	} {
		if got := broken(t, s, x.at, x.change); !slices.Equal(got, x.want) {
			t.Error(i, got)
		}
	}
}
