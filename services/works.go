package services

import (
	"slices"

	"countersign/api"
	"countersign/flights"
	"countersign/lanes"
	"countersign/queues"
	"countersign/traverses"
	"countersign/turns"
)

// work lets a lane work.
func (v *Service) work(x api.Event, reply func(...api.Reply)) {
	l, what, e := lanes.Begin(v.lanes, x.Lane)
	if e != api.OK {
		return
	}
	v.lanes = l
	switch what {
	case lanes.Takes:
		v.take(x.Lane)
	case lanes.Finishes:
		v.finish(x.Lane, reply)
	}
}

// versions returns all flights with their versions.
func (v *Service) versions() []lanes.Flight {
	var out []lanes.Flight
	for _, f := range v.table.Flights {
		out = append(out, lanes.Flight{ID: f.ID, Version: f.Version})
	}
	return out
}

// take lets a lane take a quantum, if there is one.
func (v *Service) take(lane int) {
	ids, e := lanes.Eligible(v.lanes, lane, v.versions(), v.config.Hedge)
	if e != api.OK {
		return
	}
	able := make([]bool, len(v.gates))
	for _, f := range v.table.Flights {
		able[f.Client] = able[f.Client] || slices.Contains(ids, f.ID)
	}
	t, client, found, e := turns.Next(v.turns, able)
	if e != api.OK || !found {
		return
	}
	q, e := flights.Queue(v.table, client)
	if e != api.OK {
		return
	}
	id, found := v.pick(q, t.Round, ids)
	if !found {
		return
	}
	f, e := flights.Find(v.table, id)
	if e != api.OK {
		return
	}
	l, e := lanes.Take(v.lanes, lane, lanes.Flight{ID: f.ID, Version: f.Version}, v.config.Hedge)
	if e != api.OK {
		return
	}
	v.turns, v.lanes, v.held[lane] = t, l, v.journeys[id].t
}

// pick returns which flight of a queue is the next one.
func (v *Service) pick(q queues.Queue, round int64, ids []int) (id int, found bool) {
	if v.config.Flaw != flawClasses {
		id, found, _ = queues.Pick(q, round, v.config.Age, ids)
		return id, found
	}
	least := api.MaxClasses
	for _, x := range q.Entries {
		if slices.Contains(ids, x.ID) && x.Class < least {
			id, found, least = x.ID, true, x.Class
		}
	}
	return id, found
}

// finish lets a lane finish its quantum.
func (v *Service) finish(lane int, reply func(...api.Reply)) {
	l, f, e := lanes.Drop(v.lanes, lane)
	if e != api.OK {
		return
	}
	own := v.held[lane]
	v.lanes, v.held[lane] = l, traverses.Traversal{}
	now, e := flights.Find(v.table, f.ID)
	if e != api.OK {
		return
	}
	j := v.journeys[f.ID]
	if lanes.Stale(f, v.versions()) {
		if v.config.Flaw != flawStale {
			return
		}
		j.t = own
	}
	t, done, e := traverses.Step(j.world, j.t, min(v.config.Quantum, v.config.Budget-now.Spent))
	if e != api.OK {
		return
	}
	table, e := flights.Commit(v.table, f.ID, done)
	if e != api.OK {
		return
	}
	v.table, v.journeys[f.ID] = table, journey{j.world, t}
	switch yes, users, e := t.Answer(); {
	case e == api.OK && now.Query.Kind == api.Check:
		v.land(f.ID, api.Answer, yes, nil, reply)
	case e == api.OK:
		v.land(f.ID, api.Listed, false, users, reply)
	case now.Spent+done == v.config.Budget:
		v.land(f.ID, api.Budget, false, nil, reply)
	}
}
