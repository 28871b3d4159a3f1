package consoles

import (
	"strconv"
	"strings"

	"countersign/api"
	"countersign/audits"
	"countersign/buckets"
	"countersign/certs"
	"countersign/models"
	"countersign/mutants"
	"countersign/names"
	"countersign/reaches"
	"countersign/refs"
	"countersign/scripts"
	"countersign/tuples"
)

// question is what a line asks.
type question = func(c *Console, x Call) (string, api.Errno)

// questions returns for each word that asks what it asks.
func questions() map[string]question {
	return map[string]question{
		"text": (*Console).sayText, "errors": plain((*Console).sayErrors), "replies": plain((*Console).sayReplies), "last": plain((*Console).sayLast),
		"state": plain((*Console).sayState), "waiting": plain((*Console).sayWaiting), "tokens": plain((*Console).sayTokens), "kept": plain((*Console).sayKept),
		"pins": plain((*Console).sayPins), "lanes": plain((*Console).sayLanes), "flights": plain((*Console).sayFlights),
		"tuples": (*Console).sayTuples, "ask": (*Console).sayAsk, "who": (*Console).sayWho, "why": (*Console).sayWhy,
		"audit": (*Console).sayAudit, "bound": (*Console).sayBound, "totals": (*Console).sayTotals, "caught": (*Console).sayCaught,
	}
}

// plain makes a question of a method that has no error.
func plain(say func(c *Console) string) question {
	return func(c *Console, _ Call) (string, api.Errno) { return say(c), api.OK }
}

// texts returns the texts of some things.
func texts[T any](l []T, text func(T) string) []string {
	var out []string
	for _, x := range l {
		out = append(out, text(x))
	}
	return out
}

func decimal[T int | int64 | uint64 | uint8 | api.Errno](n T) string {
	if n < 0 {
		return strconv.FormatInt(int64(n), 10)
	}
	return strconv.FormatUint(uint64(n), 10)
}

func (c *Console) sayText(_ Call) (string, api.Errno) {
	text, e := scripts.Text(c.script)
	if e != api.OK {
		return "", e
	}
	return put("", strings.ReplaceAll(strings.TrimSuffix(text, "\n"), "\n", "~")), api.OK
}

func (c *Console) sayErrors() string { return put(" ", texts(c.errors, decimal[api.Errno])...) }

func (c *Console) sayReplies() string {
	var out []string
	for _, l := range c.replies {
		out = append(out, replyTexts(l)...)
	}
	return put("~", out...)
}

func (c *Console) sayLast() string {
	if len(c.replies) == 0 {
		return put("~")
	}
	return put("~", replyTexts(c.replies[len(c.replies)-1])...)
}

func (c *Console) sayState() string {
	v := c.service
	t := v.Turns()
	draining := "0"
	if v.Draining() {
		draining = "1"
	}
	return put(" ", "time", decimal(v.Time()), "tickets", decimal(v.Tickets()), "works", decimal(v.Lanes().Works), "round", decimal(t.Round), "turn", decimal(t.Turn),
		"credit", decimal(t.Credit), "flights", decimal(len(v.Flights().Flights)), "draining", draining)
}

// clients returns a text for each client.
func (c *Console) clients(text func(client int) string) string {
	var out []string
	for i := range c.script.Config.Clients {
		out = append(out, text(i))
	}
	return put(" ", out...)
}

func (c *Console) sayWaiting() string {
	return c.clients(func(i int) string { return decimal(c.service.Waiting(i)) })
}

func (c *Console) sayTokens() string {
	return c.clients(func(i int) string {
		g, _ := c.service.Gate(i)
		n, _ := buckets.At(g.Bucket, c.service.Time())
		return decimal(n)
	})
}

func (c *Console) sayKept() string { return put(" ", texts(c.service.Kept(), decimal[uint64])...) }

func (c *Console) sayPins() string {
	var out []string
	for _, p := range c.service.Pins() {
		out = append(out, decimal(p.Rev)+":"+decimal(p.N))
	}
	return put(" ", out...)
}

func (c *Console) sayLanes() string {
	var out []string
	for _, x := range c.service.Lanes().Lane {
		s := "free"
		if x.Held {
			s = decimal(x.ID) + "." + decimal(x.Version)
		}
		if x.Stalled {
			s += "!"
		}
		out = append(out, s)
	}
	return put(" ", out...)
}

func (c *Console) sayFlights() string {
	var out []string
	for _, f := range c.service.Flights().Flights {
		out = append(out, put(" ", texts([]int{f.ID, f.Client, f.Class, f.Version, f.Spent, len(f.Items)}, decimal[int])...))
	}
	return put("~", out...)
}

// at returns the tuples of the revision that a line names.
func (c *Console) at(x Call) ([]api.Tuple, api.Errno) {
	s, e := c.service.Set(uint64(x.N[0]))
	return s.List(), e
}

func (c *Console) sayTuples(x Call) (string, api.Errno) {
	l, e := c.at(x)
	if e != api.OK {
		return "", e
	}
	return put(" ", texts(l, tuples.Text)...), api.OK
}

// yesNo is how a truth value is said.
func yesNo(yes bool) string {
	if yes {
		return "yes"
	}
	return "no"
}

func (c *Console) sayAsk(x Call) (string, api.Errno) {
	l, e := c.at(x)
	if e != api.OK {
		return "", e
	}
	yes, e := models.Check(c.script.Schema, l, x.Query.Goal, x.Query.User)
	if e != api.OK {
		return "", e
	}
	cost, e := reaches.Cost(c.script.Schema, l, x.Query)
	if e != api.OK {
		return "", e
	}
	return put(" ", yesNo(yes), decimal(cost)), api.OK
}

func (c *Console) sayWho(x Call) (string, api.Errno) {
	l, e := c.at(x)
	if e != api.OK {
		return "", e
	}
	users, e := models.Expand(c.script.Schema, l, x.Query.Goal)
	if e != api.OK {
		return "", e
	}
	return put(" ", texts(users, names.Text)...), api.OK
}

func (c *Console) sayWhy(x Call) (string, api.Errno) {
	s, e := c.service.Set(uint64(x.N[0]))
	if e != api.OK {
		return "", e
	}
	w, e := refs.New(c.script.Schema, s)
	if e != api.OK {
		return "", e
	}
	cert, e := certs.Of(w, x.Query)
	if e != api.OK {
		return "", e
	}
	return put("~", texts(cert.Lines, func(l certs.Line) string {
		return put(" ", names.GoalText(l.Goal), yesNo(l.Yes), decimal(l.Rank))
	})...), api.OK
}

func (c *Console) sayAudit(_ Call) (string, api.Errno) {
	at, rules, e := audits.First(c.script)
	if e == api.ErrNone {
		return put(""), api.OK
	}
	if e != api.OK {
		return "", e
	}
	return put(" ", append([]string{decimal(at)}, texts(rules, audits.Title)...)...), api.OK
}

func (c *Console) sayBound(_ Call) (string, api.Errno) {
	n, e := audits.Bound(c.script.Config)
	if e != api.OK {
		return "", e
	}
	return decimal(n), api.OK
}

func (c *Console) sayTotals(_ Call) (string, api.Errno) {
	t, e := audits.Measure(c.script)
	if e != api.OK {
		return "", e
	}
	return put(" ", "requests", decimal(t.Requests), "items", decimal(t.Items), "answers", decimal(t.Answers), "budgets", decimal(t.Budgets), "sheds", decimal(t.Sheds),
		"writes", decimal(t.Writes), "takes", decimal(t.Takes), "stale", decimal(t.Stale), "longest", decimal(t.Longest)), api.OK
}

func (c *Console) sayCaught(_ Call) (string, api.Errno) {
	l, e := mutants.Caught(c.script)
	if e != api.OK {
		return "", e
	}
	return put(" ", texts(l, decimal[uint8])...), api.OK
}
