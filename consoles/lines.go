package consoles

import (
	"slices"
	"strconv"
	"strings"

	"countersign/api"
	"countersign/filters"
	"countersign/names"
	"countersign/tuples"
)

// patterns returns for each word what belongs to it: n a number, g a goal, u a user, f a filter, h bytes, p a part, t a text; what stands behind * may be there any number of times.
func patterns() map[string]string {
	return map[string]string{
		"new": "", "cap": "n", "classes": "n", "age": "n", "quantum": "n", "budget": "n", "hedge": "n", "flaw": "n", "client": "nnnn", "schema": "t",
		"check": "nnngu", "expand": "nnng", "batch": "nnngu*gu", "write": "n*p", "read": "nnf", "raw": "nh",
		"tick": "n", "work": "n", "stall": "n", "resume": "n", "drain": "", "collect": "n", "mutant": "n", "cut": "n", "drop": "n", "load": "t",
		"text": "", "errors": "", "replies": "", "last": "", "state": "", "waiting": "", "tokens": "", "kept": "", "pins": "", "lanes": "", "flights": "",
		"tuples": "n", "ask": "ngu", "who": "ng", "why": "ngu", "audit": "", "bound": "", "totals": "", "caught": "",
	}
}

// line is a line that is read.
type line struct {
	call    Call
	queries []api.Query
	words   []string // that are left
}

// Parse returns what a line consists of. (P45.2)
func Parse(s string) (Call, api.Errno) {
	if len(s) > MaxLine {
		return Call{}, api.ErrLimit
	}
	for i := range len(s) {
		if s[i] < 32 || s[i] > 126 {
			return Call{}, api.ErrForm
		}
	}
	word, rest, more := strings.Cut(s, " ")
	pattern, found := patterns()[word]
	if !found {
		return Call{}, api.ErrForm
	}
	if pattern == "t" {
		return Call{Word: word, Text: rest}, api.OK
	}
	l := &line{call: Call{Word: word}}
	if more {
		l.words = strings.Split(rest, " ")
	}
	if !l.follows(pattern) || len(l.words) > 0 {
		return Call{}, api.ErrForm
	}
	return l.finish(), api.OK
}

// follows takes the words that a pattern says, and reports whether they are there.
func (l *line) follows(pattern string) bool {
letters:
	for i := range len(pattern) {
		if pattern[i] != '*' {
			if !l.take(pattern[i]) {
				return false
			}
			continue letters
		}
		for n := 0; len(l.words) > 0 && n < MaxParts; n++ {
			if !l.follows(pattern[i+1:]) {
				return false
			}
		}
		break letters
	}
	return true
}

// take takes a word of a kind, and reports whether it is there.
func (l *line) take(kind byte) bool {
	if len(l.words) == 0 {
		return false
	}
	word := l.words[0]
	l.words = l.words[1:]
	e := api.ErrForm
	switch kind {
	case 'n':
		var n uint64
		n, e = number(word)
		l.call.N = append(l.call.N, int64(n))
	case 'g':
		q := api.Query{Kind: api.Check}
		q.Goal, e = names.ParseGoal(word)
		l.queries = append(l.queries, q)
	case 'u':
		l.queries[len(l.queries)-1].User, e = names.ParseObject(word)
	case 'f':
		l.call.Request.Filter, e = filters.Parse(word)
	case 'h':
		l.call.Bytes, e = digits(word)
	case 'p':
		e = l.part(word)
	}
	return e == api.OK
}

// number returns the number with a text, in the one form that it has.
func number(s string) (uint64, api.Errno) {
	n, err := strconv.ParseUint(s, 10, 63)
	if err != nil || strconv.FormatUint(n, 10) != s {
		return 0, api.ErrForm
	}
	return n, api.OK
}

// digits returns the bytes with a text of pairs of digits.
func digits(s string) ([]byte, api.Errno) {
	if s == "-" {
		return nil, api.OK
	}
	if s == "" || len(s)%2 != 0 || strings.Trim(s, "0123456789abcdef") != "" {
		return nil, api.ErrForm
	}
	out := make([]byte, len(s)/2)
	for i := range out {
		n, err := strconv.ParseUint(s[2*i:2*i+2], 16, 8)
		if err != nil {
			return nil, api.ErrForm
		}
		out[i] = byte(n)
	}
	return out, api.OK
}

// part reads a must or a change.
func (l *line) part(s string) api.Errno {
	if s == "" || !strings.Contains("?!+-", s[:1]) {
		return api.ErrForm
	}
	t, e := tuples.Parse(s[1:])
	if e != api.OK {
		return e
	}
	r := &l.call.Request
	switch s[0] {
	case '?', '!':
		r.Musts = append(r.Musts, api.Must{Tuple: t, Not: s[0] == '!'})
	default:
		r.Changes = append(r.Changes, api.Change{Tuple: t, Drop: s[0] == '-'})
	}
	return api.OK
}

// finish returns the call, with its request and its query.
func (l *line) finish() Call {
	c := l.call
	r := &c.Request
	switch c.Word {
	case "check", "expand", "batch":
		r.Kind, r.Class, r.Rev, r.Items = api.Ask, uint8(c.N[1]%256), uint64(c.N[2]), slices.Clip(l.queries)
	case "write":
		r.Kind = api.Write
	case "read":
		r.Kind, r.Rev = api.Read, uint64(c.N[1])
	case "ask", "who", "why":
		c.Query = l.queries[0]
	}
	if c.Word == "expand" {
		r.Items[0].Kind = api.Expand
	}
	if c.Word == "who" {
		c.Query.Kind = api.Expand
	}
	c.N, r.Musts, r.Changes = slices.Clip(c.N), slices.Clip(r.Musts), slices.Clip(r.Changes)
	return c
}
