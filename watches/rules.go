package watches

import (
	"maps"
	"slices"

	"countersign/api"
	"countersign/buckets"
	"countersign/filters"
	"countersign/models"
	"countersign/reaches"
	"countersign/requests"
	"countersign/sets"
	"countersign/turns"
)

// left returns the items that wait behind an event.
func (w *Watch) left(m Moment) map[item]wait {
	out := maps.Clone(w.waits)
	for _, r := range m.Replies {
		if Answers(r.Kind) {
			delete(out, item{r.Ticket, r.Item})
		}
	}
	if m.Admitted() && m.Request.Kind == api.Ask {
		rev := m.Request.Rev
		if rev == 0 {
			rev = m.newest
		}
		set, _ := w.service.Set(rev)
		for i, q := range m.Request.Items {
			out[item{m.ticket, i}] = wait{m.at, m.Event.Client, q, rev, set}
		}
	}
	return out
}

// right returns the right reply to an item that waits.
func (w *Watch) right(k item, x wait) api.Reply {
	r := api.Reply{Ticket: k.ticket, Item: k.item, Client: x.client, Kind: api.Budget, Rev: x.rev}
	s, l := w.script.Schema, x.set.List()
	if cost, e := reaches.Cost(s, l, x.query); e != api.OK || cost > w.script.Config.Budget {
		return r
	}
	if x.query.Kind == api.Check {
		r.Kind = api.Answer
		r.Yes, _ = models.Check(s, l, x.query.Goal, x.query.User)
	} else {
		r.Kind = api.Listed
		r.Users, _ = models.Expand(s, l, x.query.Goal)
	}
	return r
}

// firsts returns the replies to items that wait, and whether there are others to items.
func (w *Watch) firsts(m Moment) (out []api.Reply, again bool) {
	seen := map[item]bool{}
	for _, r := range m.Replies {
		if !Answers(r.Kind) {
			continue
		}
		k := item{r.Ticket, r.Item}
		if _, waits := w.waits[k]; waits && !seen[k] {
			out = append(out, r)
		} else {
			again = true
		}
		seen[k] = true
	}
	return out, again
}

// WrongAnswer reports whether a reply to an item that waits is not the right one.
func WrongAnswer(w *Watch, m Moment) bool {
	l, _ := w.firsts(m)
	return slices.ContainsFunc(l, func(r api.Reply) bool {
		k := item{r.Ticket, r.Item}
		return !requests.SameReply(r, w.right(k, w.waits[k]))
	})
}

// AnsweredAgain reports whether there is a reply to an item that does not wait.
func AnsweredAgain(w *Watch, m Moment) bool {
	_, again := w.firsts(m)
	return again
}

// tokens reports whether the tokens for the request of an event are there.
func (w *Watch) tokens(m Moment) bool {
	have, e := buckets.At(w.buckets[m.Event.Client], w.service.Time())
	return e == api.OK && have >= int64(requests.Units(m.Request))
}

// AdmittedWithoutTokens reports whether a request is admitted, and the tokens are not there.
func AdmittedWithoutTokens(w *Watch, m Moment) bool { return m.Admitted() && !w.tokens(m) }

// ShedWrongly reports whether a request is shed with a wrong wait, or though there are tokens and room.
func ShedWrongly(w *Watch, m Moment) bool {
	r, replied := m.reply()
	if !replied || r.Kind != api.Shed {
		return false
	}
	after, e := buckets.After(w.buckets[m.Event.Client], w.service.Time(), int64(requests.Units(m.Request)))
	room := m.Request.Kind != api.Ask || m.waiting+len(m.Request.Items) <= w.script.Config.Cap
	return e != api.OK || r.After != after || w.tokens(m) && room
}

// Overtaken reports whether a flight is taken ahead of an older one that has waited long enough.
func Overtaken(w *Watch, m Moment) bool {
	if !m.Took {
		return false
	}
	c := w.script.Config
	round := w.service.Turns().Round
	for _, f := range m.flights.Flights {
		if f.ID < m.taken.ID && f.Client == m.taken.Client && slices.Contains(m.eligible, f.ID) && round-f.Since >= int64(c.Age*c.Classes) {
			return true
		}
	}
	return false
}

// Unfair reports whether a take makes a stretch unfair to its client and another one.
func Unfair(w *Watch, m Moment) bool {
	if !m.Took {
		return false
	}
	last := m.take(len(w.buckets))
	for other := range last.able {
		if other != last.client && !w.fair(last, other) {
			return true
		}
	}
	return false
}

// fair reports whether all stretches that end with a take are fair to its client and to another one.
func (w *Watch) fair(last take, other int) bool {
	own := last.client
	v, u := w.script.Config.Clients[own].Weight, w.script.Config.Clients[other].Weight
	n, m := 0, 0
	for i := len(w.takes); i >= 0; i-- {
		x := last
		if i < len(w.takes) {
			x = w.takes[i]
		}
		if !x.able[own] || !x.able[other] {
			return true
		}
		switch x.client {
		case own:
			n++
		case other:
			m++
		}
		if gap, _ := turns.Gap(v, n, u, m); gap > 2*v*u {
			return false
		}
	}
	return true
}

// NotPinned reports whether the revisions of the items that wait are not kept, or pins are not theirs.
func NotPinned(w *Watch, m Moment) bool {
	counts := map[uint64]int{}
	kept := w.service.Kept()
	for _, x := range w.left(m) {
		counts[x.rev]++
	}
	for rev := range counts {
		if !slices.Contains(kept, rev) {
			return true
		}
	}
	pins := w.service.Pins()
	for _, p := range pins {
		if counts[p.Rev] != p.N {
			return true
		}
	}
	return len(pins) != len(counts)
}

// WrongStore reports whether revisions are not what they have to be.
func WrongStore(w *Watch, m Moment) bool {
	for _, rev := range w.service.Kept() {
		now, e := w.service.Set(rev)
		if known, found := w.sets[rev]; found && (e != api.OK || !sets.Same(known, now)) {
			return true
		}
	}
	r, _ := m.reply()
	if r.Kind == api.Wrote {
		return w.wrongWrite(m, r)
	}
	return w.newest() != m.newest || r.Kind == api.Told && w.wrongRead(m, r)
}

// wrongWrite reports whether a reply Wrote does not tell the truth.
func (w *Watch) wrongWrite(m Moment, r api.Reply) bool {
	set := w.sets[m.newest]
	for _, x := range m.Request.Musts {
		if set.Has(x.Tuple) == x.Not {
			return true
		}
	}
	for _, x := range m.Request.Changes {
		next, e := set.With(x)
		if e != api.OK {
			return true
		}
		set = next
	}
	now, e := w.service.Set(r.Rev)
	return e != api.OK || r.Rev != m.newest+1 || w.newest() != r.Rev || !sets.Same(set, now)
}

// wrongRead reports whether a reply Told does not tell the truth.
func (w *Watch) wrongRead(m Moment, r api.Reply) bool {
	rev := m.Request.Rev
	if rev == 0 {
		rev = m.newest
	}
	l, e := filters.Select(w.sets[rev].List(), m.Request.Filter)
	return e != api.OK || r.Rev != rev || !slices.Equal(l, r.Tuples)
}

// WrongDrain reports whether a drain is not what it has to be.
func WrongDrain(w *Watch, m Moment) bool {
	r, replied := m.reply()
	if m.Right && (replied && r.Kind == api.Draining) != m.draining {
		return true
	}
	due := !w.drained && w.service.Draining() && len(w.left(m)) == 0
	told := 0
	for _, r := range m.Replies {
		if r.Kind == api.Drained {
			told++
		}
	}
	if !due {
		return told > 0
	}
	return told != 1 || m.Replies[len(m.Replies)-1].Kind != api.Drained
}
