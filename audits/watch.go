package audits

import (
	"slices"

	"countersign/api"
	"countersign/buckets"
	"countersign/flights"
	"countersign/lanes"
	"countersign/requests"
	"countersign/scripts"
	"countersign/services"
	"countersign/sets"
)

// item is an item of a request.
type item struct{ ticket, item int }

// wait is what is known of an item that waits.
type wait struct {
	event  int // in which it was admitted
	client int
	query  api.Query
	rev    uint64
	set    sets.Set // of the revision, at that time
}

// take is a take of a lane.
type take struct {
	able   []bool
	client int
}

// watch is what is known while a service does events.
type watch struct {
	script  scripts.Script
	service *services.Service
	buckets []buckets.Bucket
	waits   map[item]wait
	sets    map[uint64]sets.Set // that revisions had when they were kept first
	takes   []take
	drained bool // there was an event behind which the service was draining, and no item waited
}

// moment is an event that was done, with what there was before it, and with what follows.
type moment struct {
	at       int
	event    api.Event
	replies  []api.Reply
	ticket   int
	request  api.Request // of an Arrive
	right    bool        // the request is right
	newest   uint64      // before
	draining bool        // before
	waiting  int         // items of the client, before
	flights  flights.Table
	eligible []int // flights that were eligible for a lane that was to take one
	took     bool
	taken    flights.Flight
	stale    bool // a stale quantum was finished
}

// begin returns what is known at the beginning.
func begin(s scripts.Script, v *services.Service) *watch {
	w := &watch{script: s, service: v, waits: map[item]wait{}, sets: map[uint64]sets.Set{}}
	for _, c := range s.Config.Clients {
		b, _ := buckets.New(c.Rate, c.Burst, 0)
		w.buckets = append(w.buckets, b)
	}
	w.keep()
	return w
}

// keep notes the sets of revisions that are new.
func (w *watch) keep() {
	for _, rev := range w.service.Kept() {
		if _, found := w.sets[rev]; !found {
			w.sets[rev], _ = w.service.Set(rev)
		}
	}
}

// newest returns the newest revision of the service.
func (w *watch) newest() uint64 {
	kept := w.service.Kept()
	if len(kept) == 0 {
		return 0
	}
	return kept[len(kept)-1]
}

// do lets the service do an event, and returns what came of it; false if it was refused.
func (w *watch) do(i int, x api.Event) (m moment, done bool) {
	v := w.service
	m = moment{at: i, event: x, ticket: v.Tickets(), newest: w.newest(), draining: v.Draining(), waiting: v.Waiting(x.Client)}
	before := v.Lanes()
	if x.Kind == api.Arrive {
		r, _, e := requests.Decode(x.Bytes)
		m.request = r
		m.right = e == api.OK && requests.Right(w.script.Schema, w.script.Config.Classes, r) == api.OK
	}
	if x.Kind == api.Work {
		m.flights = v.Flights()
	}
	var e api.Errno
	if m.replies, e = v.Do(x); e != api.OK {
		return moment{}, false
	}
	if x.Kind == api.Work {
		m.work(before, v.Lanes(), w.script.Config.Hedge)
	}
	return m, true
}

// versions returns the flights of a table with their versions.
func versions(t flights.Table) []lanes.Flight {
	var out []lanes.Flight
	for _, f := range t.Flights {
		out = append(out, lanes.Flight{ID: f.ID, Version: f.Version})
	}
	return out
}

// work finds out what a work has done.
func (m *moment) work(before, after lanes.Lanes, hedge int) {
	x := m.event.Lane
	begun, what, e := lanes.Begin(before, x)
	if e != api.OK {
		return
	}
	all := versions(m.flights)
	switch what {
	case lanes.Takes:
		m.eligible, _ = lanes.Eligible(begun, x, all, hedge)
		if !after.Lane[x].Held {
			return
		}
		m.took = true
		for _, f := range m.flights.Flights {
			if f.ID == after.Lane[x].ID {
				m.taken = f
			}
		}
	case lanes.Finishes:
		held := before.Lane[x]
		m.stale = lanes.Stale(lanes.Flight{ID: held.ID, Version: held.Version}, all)
	}
}

// answers reports whether replies of a kind are to items.
func answers(kind uint8) bool {
	return kind == api.Answer || kind == api.Listed || kind == api.Budget
}

// reply returns the reply to the request of an event, if it has one.
func (m moment) reply() (api.Reply, bool) {
	for _, r := range m.replies {
		if m.event.Kind == api.Arrive && r.Kind != api.Drained && r.Ticket == m.ticket && !answers(r.Kind) {
			return r, true
		}
	}
	return api.Reply{}, false
}

// admitted reports whether a request was admitted.
func (m moment) admitted() bool {
	if m.event.Kind != api.Arrive {
		return false
	}
	r, replied := m.reply()
	return !replied || r.Kind == api.Wrote || r.Kind == api.Failed || r.Kind == api.Told
}

// take returns the take of an event.
func (m moment) take(clients int) take {
	able := make([]bool, clients)
	for _, f := range m.flights.Flights {
		if f.Client >= 0 && f.Client < clients && slices.Contains(m.eligible, f.ID) {
			able[f.Client] = true
		}
	}
	return take{able, m.taken.Client}
}

// learn notes what an event has changed.
func (w *watch) learn(m moment) {
	x := m.event
	if m.admitted() {
		if b, taken, e := buckets.Take(w.buckets[x.Client], w.service.Time(), int64(requests.Units(m.request))); e == api.OK && taken {
			w.buckets[x.Client] = b
		}
	}
	w.waits = w.left(m)
	w.keep()
	if m.took {
		w.takes = append(w.takes, m.take(len(w.buckets)))
	}
	w.drained = w.drained || w.service.Draining() && len(w.waits) == 0
}
