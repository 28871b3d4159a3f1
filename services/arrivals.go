package services

import (
	"countersign/api"
	"countersign/filters"
	"countersign/flights"
	"countersign/gates"
	"countersign/pins"
	"countersign/refs"
	"countersign/requests"
	"countersign/sets"
	"countersign/stores"
	"countersign/traverses"
)

// arrive lets a request arrive.
func (v *Service) arrive(x api.Event, reply func(...api.Reply)) {
	ticket := v.tickets
	v.tickets++
	tell := func(r api.Reply) {
		r.Ticket, r.Client = ticket, x.Client
		reply(r)
	}
	r, _, e := requests.Decode(x.Bytes)
	if e != api.OK || requests.Right(v.schema, v.config.Classes, r) != api.OK {
		tell(api.Reply{Kind: api.Malformed})
		return
	}
	if v.draining {
		tell(api.Reply{Kind: api.Draining})
		return
	}
	set, e := v.store.At(r.Rev)
	if e != api.OK && r.Kind != api.Write {
		tell(api.Reply{Kind: api.Unknown, Rev: r.Rev})
		return
	}
	g, verdict, e := gates.Ask(v.gates[x.Client], v.time, int64(requests.Units(r)), len(r.Items))
	if e != api.OK || !verdict.Admitted {
		tell(api.Reply{Kind: api.Shed, Rev: r.Rev, After: verdict.After})
		return
	}
	v.gates[x.Client] = g
	rev := r.Rev
	if rev == 0 {
		rev = v.store.Newest()
	}
	switch r.Kind {
	case api.Write:
		tell(v.write(r))
	case api.Read:
		l, _ := filters.Select(set.List(), r.Filter)
		tell(api.Reply{Kind: api.Told, Rev: rev, Tuples: l})
	case api.Ask:
		for i, q := range r.Items {
			v.join(q, rev, set, flights.Item{Ticket: ticket, Item: i, Client: x.Client, Class: int(r.Class), Rev: rev})
		}
	}
}

// write makes a write, and returns the reply.
func (v *Service) write(r api.Request) api.Reply {
	rev, e := v.store.Write(r.Musts, r.Changes)
	if e != api.OK {
		return api.Reply{Kind: api.Failed, Rev: v.store.Newest()}
	}
	return api.Reply{Kind: api.Wrote, Rev: rev}
}

// join lets an item join a flight, which gets a traversal if it is made.
func (v *Service) join(q api.Query, rev uint64, set sets.Set, x flights.Item) {
	if v.store.Pin(rev) != api.OK {
		return
	}
	t, id, made, e := flights.Join(v.table, q, rev, x, v.turns.Round, v.config.Flaw == flawLoose)
	if e != api.OK {
		return
	}
	v.table = t
	if !made {
		return
	}
	w, e := v.world(rev, set)
	if e != api.OK {
		return
	}
	if t, e := traverses.New(w, q); e == api.OK {
		v.journeys[id] = journey{w, t}
	}
}

// world returns the world of a revision; flights with the same revision share it.
func (v *Service) world(rev uint64, set sets.Set) (refs.World, api.Errno) {
	for _, f := range v.table.Flights {
		if j, found := v.journeys[f.ID]; found && f.Rev == rev {
			return j.world, api.OK
		}
	}
	return refs.New(v.schema, set)
}

// newest returns a store with the n newest revisions of one, and with their pins alone.
func newest(s *stores.Store, n int) *stores.Store {
	kept := s.Kept()
	kept = kept[max(0, len(kept)-n):]
	var l []sets.Set
	var held pins.Pins
	for _, rev := range kept {
		set, _ := s.At(rev)
		l = append(l, set)
		if p, e := held.More(rev, s.Pins().Count(rev)); e == api.OK {
			held = p
		}
	}
	out, e := stores.Make(kept, l, held)
	if e != api.OK {
		return s
	}
	return out
}

// land ends a flight, and replies to its items.
func (v *Service) land(id int, kind uint8, yes bool, users []api.Object, reply func(...api.Reply)) {
	t, f, e := flights.Land(v.table, id)
	if e != api.OK {
		return
	}
	v.table = t
	delete(v.journeys, id)
	reply(flights.Fan(f, kind, yes, users)...)
	for _, x := range f.Items {
		v.store.Unpin(x.Rev) // of a revision that is gone (flaw 4) there is nothing to unpin
		if g, e := gates.Release(v.gates[x.Client], 1); e == api.OK {
			v.gates[x.Client] = g
		}
	}
}
