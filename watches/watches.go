// Package watches knows what a service did while it does the events of a script, and tells which rules an event breaks. It is the inner part of audits.
package watches

import (
	"slices"

	"countersign/api"
	"countersign/buckets"
	"countersign/flights"
	"countersign/lanes"
	"countersign/requests"
	"countersign/scripts"
	"countersign/services"
	"countersign/sets"
)

// item is an item of a request.
type item struct{ ticket, item int }

// wait is what is known of an item that waits.
type wait struct {
	event  int // in which it was admitted
	client int
	query  api.Query
	rev    uint64
	set    sets.Set // of the revision, at that time
}

// take is a take of a lane.
type take struct {
	able   []bool
	client int
}

// Watch is what is known while a service does events.
type Watch struct {
	script  scripts.Script
	service *services.Service
	buckets []buckets.Bucket
	waits   map[item]wait
	sets    map[uint64]sets.Set // that revisions had when they were kept first
	takes   []take
	drained bool // there was an event behind which the service was draining, and no item waited
}

// Moment is an event that was done, with what there was before it, and with what follows.
type Moment struct {
	Event    api.Event
	Replies  []api.Reply
	Request  api.Request // of an Arrive
	Right    bool        // the request is right
	Took     bool        // a lane took a quantum
	Stale    bool        // a stale quantum was finished
	at       int
	ticket   int
	newest   uint64 // before
	draining bool   // before
	waiting  int    // items of the client, before
	flights  flights.Table
	eligible []int // flights that were eligible for a lane that was to take one
	taken    flights.Flight
}

// Run lets a service do the events of a script, and calls each behind those that it does not refuse: the error of scripts.Check.
func Run(s scripts.Script, each func(i int, w *Watch, m Moment) bool) api.Errno {
	if e := scripts.Check(s); e != api.OK {
		return e
	}
	v, e := services.New(s.Config, s.Schema)
	if e != api.OK {
		return e
	}
	w := begin(s, v)
	for i, x := range s.Events {
		m, done := w.do(i, x)
		if !done {
			continue
		}
		if !each(i, w, m) {
			break
		}
		w.learn(m)
	}
	return api.OK
}

// begin returns what is known at the beginning.
func begin(s scripts.Script, v *services.Service) *Watch {
	w := &Watch{script: s, service: v, waits: map[item]wait{}, sets: map[uint64]sets.Set{}}
	for _, c := range s.Config.Clients {
		b, _ := buckets.New(c.Rate, c.Burst, 0)
		w.buckets = append(w.buckets, b)
	}
	w.keep()
	return w
}

// keep notes the sets of revisions that are new.
func (w *Watch) keep() {
	for _, rev := range w.service.Kept() {
		if _, found := w.sets[rev]; !found {
			w.sets[rev], _ = w.service.Set(rev)
		}
	}
}

// newest returns the newest revision of the service.
func (w *Watch) newest() uint64 {
	kept := w.service.Kept()
	if len(kept) == 0 {
		return 0
	}
	return kept[len(kept)-1]
}

// do lets the service do an event, and returns what came of it; false if it was refused.
func (w *Watch) do(i int, x api.Event) (m Moment, done bool) {
	v := w.service
	m = Moment{at: i, Event: x, ticket: v.Tickets(), newest: w.newest(), draining: v.Draining(), waiting: v.Waiting(x.Client)}
	before := v.Lanes()
	if x.Kind == api.Arrive {
		r, _, e := requests.Decode(x.Bytes)
		m.Request = r
		m.Right = e == api.OK && requests.Right(w.script.Schema, w.script.Config.Classes, r) == api.OK
	}
	if x.Kind == api.Work {
		m.flights = v.Flights()
	}
	var e api.Errno
	if m.Replies, e = v.Do(x); e != api.OK {
		return Moment{}, false
	}
	if x.Kind == api.Work {
		m.work(before, v.Lanes(), w.script.Config.Hedge)
	}
	return m, true
}

// versions returns the flights of a table with their versions.
func versions(t flights.Table) []lanes.Flight {
	var out []lanes.Flight
	for _, f := range t.Flights {
		out = append(out, lanes.Flight{ID: f.ID, Version: f.Version})
	}
	return out
}

// work finds out what a work has done.
func (m *Moment) work(before, after lanes.Lanes, hedge int) {
	x := m.Event.Lane
	begun, what, e := lanes.Begin(before, x)
	if e != api.OK {
		return
	}
	all := versions(m.flights)
	switch what {
	case lanes.Takes:
		m.eligible, _ = lanes.Eligible(begun, x, all, hedge)
		if !after.Lane[x].Held {
			return
		}
		m.Took = true
		for _, f := range m.flights.Flights {
			if f.ID == after.Lane[x].ID {
				m.taken = f
			}
		}
	case lanes.Finishes:
		held := before.Lane[x]
		m.Stale = lanes.Stale(lanes.Flight{ID: held.ID, Version: held.Version}, all)
	}
}

// Waits returns the event in which an item that waits was admitted.
func (w *Watch) Waits(ticket, n int) (event int, waits bool) {
	x, waits := w.waits[item{ticket, n}]
	return x.event, waits
}

// Answers reports whether replies of a kind are to items.
func Answers(kind uint8) bool {
	return kind == api.Answer || kind == api.Listed || kind == api.Budget
}

// reply returns the reply to the request of an event, if it has one.
func (m Moment) reply() (api.Reply, bool) {
	for _, r := range m.Replies {
		if m.Event.Kind == api.Arrive && r.Kind != api.Drained && r.Ticket == m.ticket && !Answers(r.Kind) {
			return r, true
		}
	}
	return api.Reply{}, false
}

// Admitted reports whether a request was admitted.
func (m Moment) Admitted() bool {
	if m.Event.Kind != api.Arrive {
		return false
	}
	r, replied := m.reply()
	return !replied || r.Kind == api.Wrote || r.Kind == api.Failed || r.Kind == api.Told
}

// take returns the take of an event.
func (m Moment) take(clients int) take {
	able := make([]bool, clients)
	for _, f := range m.flights.Flights {
		if f.Client >= 0 && f.Client < clients && slices.Contains(m.eligible, f.ID) {
			able[f.Client] = true
		}
	}
	return take{able, m.taken.Client}
}

// learn notes what an event has changed.
func (w *Watch) learn(m Moment) {
	x := m.Event
	if m.Admitted() {
		if b, taken, e := buckets.Take(w.buckets[x.Client], w.service.Time(), int64(requests.Units(m.Request))); e == api.OK && taken {
			w.buckets[x.Client] = b
		}
	}
	w.waits = w.left(m)
	w.keep()
	if m.Took {
		w.takes = append(w.takes, m.take(len(w.buckets)))
	}
	w.drained = w.drained || w.service.Draining() && len(w.waits) == 0
}
