package consoles

import (
	"fmt"
	"math"
	"math/rand"
	"slices"
	"strconv"
	"strings"
	"testing"

	"countersign/api"
	"countersign/requests"
	"countersign/scripts"
)

// equal reports whether two values are equal; lists that are nil and empty are.
func equal(a, b any) bool { return fmt.Sprint(a) == fmt.Sprint(b) }

// schemaText is the text of the schema at the beginning.
const schemaText = `namespace doc {
  relation parent: [folder];
  relation owner: [user];
  relation editor: [user, group#member] = this | owner;
  relation viewer: [user] = (this | editor | parent->viewer) - banned;
  relation banned: [user, group#member];
}
namespace folder {
  relation viewer: [user, group#member];
}
namespace group {
  relation member: [user, group#member];
}
namespace user {
}
`

// do does a line that is no error, and expects a reply.
func do(t *testing.T, c *Console, line, want string) {
	t.Helper()
	got, e := c.Do(line)
	if e != api.OK || got != want {
		t.Errorf("%q: %q %d, not %q", line, got, e, want)
	}
}

// sample is a console behind the first example.
func sample(t *testing.T) *Console {
	t.Helper()
	c := New()
	do(t, c, "write 0 +doc:a#owner@user:x", "0 0~0.0 0 wrote 2")
	do(t, c, "check 0 0 0 doc:a#viewer user:x", "1 0")
	for i := range 4 {
		do(t, c, "work 0", strconv.Itoa(i+2)+" 0")
	}
	return c
}

func TestP45_1NewCopyScript(t *testing.T) {
	c := New()
	s := c.Script()
	if scripts.Check(s) != api.OK || len(s.Events) != 0 || len(s.Config.Clients) != 2 || s.Config.Clients[0] != (api.Client{Weight: 2, Rate: 1, Burst: 5}) || s.Config.Budget != 100 || s.Config.Hedge != 2 || len(s.Schema.Spaces) != 4 {
		t.Error(s)
	}
	do(t, c, "text", "config 4 2 2 5 100 2 0~client 2 1 5~client 1 1 5~schema 15~"+strings.ReplaceAll(strings.TrimSpace(schemaText), "\n", "~"))
	c = sample(t)
	d := c.Copy()
	do(t, d, "work 0", "6 0")
	do(t, d, "cap 5", "ok")
	if len(c.Script().Events) != 6 || c.Script().Config.Cap != 4 || len(d.Script().Events) != 7 {
		t.Error("shared")
	}
	s = c.Script()
	s.Events[0].Bytes[0], s.Config.Clients[0].Weight, s.Schema.Spaces[0].Name = 99, 99, "x"
	if scripts.Check(c.Script()) != api.OK || c.Script().Events[0].Bytes[0] == 99 {
		t.Error("shared")
	}
	for _, none := range []*Console{nil, {}} {
		r, e := none.Do("new")
		l := none.Play([]string{"new", "?"})
		if r != "" || e != api.ErrNil || none.Copy() != nil || !scripts.Same(none.Script(), scripts.Script{}) || len(l) != 2 || l[0] != (Answer{"", api.ErrNil}) || l[1].E != api.ErrNil {
			t.Error("no console")
		}
	}
}

func TestP45_2Parse(t *testing.T) {
	good := map[string]Call{
		"new": {Word: "new"}, "cap 9223372036854775807": {Word: "cap", N: []int64{math.MaxInt64}}, "client 1 2 3 4": {Word: "client", N: []int64{1, 2, 3, 4}}, "schema": {Word: "schema"}, "schema ": {Word: "schema"}, "schema  a b ": {Word: "schema", Text: " a b "}, "load x~y": {Word: "load", Text: "x~y"},
		"raw 0 -": {Word: "raw", N: []int64{0}}, "raw 3 01ff": {Word: "raw", N: []int64{3}, Bytes: []byte{1, 255}}, "write 0": {Word: "write", N: []int64{0}, Request: api.Request{Kind: api.Write}}, "tuples 0": {Word: "tuples", N: []int64{0}}, "text": {Word: "text"},
	}
	goal := api.Goal{Object: api.Object{Space: "doc", ID: "a"}, Rel: "viewer"}
	user := api.Object{Space: "user", ID: "x"}
	tuple := api.Tuple{Goal: goal, Subject: api.Subject{Object: user}}
	check, expand := api.Query{Kind: api.Check, Goal: goal, User: user}, api.Query{Kind: api.Expand, Goal: goal}
	good["check 1 258 3 doc:a#viewer user:x"] = Call{Word: "check", N: []int64{1, 258, 3}, Request: api.Request{Kind: api.Ask, Class: 2, Rev: 3, Items: []api.Query{check}}}
	good["expand 1 0 3 doc:a#viewer"] = Call{Word: "expand", N: []int64{1, 0, 3}, Request: api.Request{Kind: api.Ask, Rev: 3, Items: []api.Query{expand}}}
	good["batch 1 0 3 doc:a#viewer user:x doc:a#viewer user:x"] = Call{Word: "batch", N: []int64{1, 0, 3}, Request: api.Request{Kind: api.Ask, Rev: 3, Items: []api.Query{check, check}}}
	good["write 0 ?doc:a#viewer@user:x !doc:a#viewer@user:x -doc:a#viewer@user:x +doc:a#viewer@user:x"] = Call{Word: "write", N: []int64{0}, Request: api.Request{Kind: api.Write, Musts: []api.Must{{Tuple: tuple}, {Tuple: tuple, Not: true}}, Changes: []api.Change{{Tuple: tuple, Drop: true}, {Tuple: tuple}}}}
	good["read 0 5 doc:*#*@user:x"] = Call{Word: "read", N: []int64{0, 5}, Request: api.Request{Kind: api.Read, Rev: 5, Filter: api.Filter{Space: "doc", Subject: tuple.Subject, Exact: true}}}
	good["ask 3 doc:a#viewer user:x"] = Call{Word: "ask", N: []int64{3}, Query: check}
	good["why 3 doc:a#viewer user:x"] = Call{Word: "why", N: []int64{3}, Query: check}
	good["who 3 doc:a#viewer"] = Call{Word: "who", N: []int64{3}, Query: expand}
	for s, want := range good {
		got, e := Parse(s)
		if e != api.OK || !equal(got, want) {
			t.Error(s, got, e)
		}
	}
	parts := "write 0" + strings.Repeat(" +doc:a#viewer@user:x", 80)
	batch := "batch 0 0 0 doc:a#viewer user:x" + strings.Repeat(" doc:a#viewer user:x", 80)
	for _, s := range []string{"", " ", "new ", " new", "New", "cap", "cap ", "cap  1", "cap 01", "cap -1", "cap +1", "cap 9223372036854775808", "cap 1 2", "cap x", "x", "client 1 2 3", "check 0 0 0 doc:a user:x", "check 0 0 0 doc:a#viewer", "check 0 0 0 doc:a#viewer user:x user:x", "check 0 0 0 doc:a#viewer user:x#y", "check 0 0 doc:a#viewer user:x", "check 0 0 0 doc:A#viewer user:x", "batch 0 0 0", "batch 0 0 0 doc:a#viewer user:x doc:a#viewer", "write", "write 0 ", "write 0 doc:a#viewer@user:x", "write 0 +", "write 0 +doc:a", "write 0  +doc:a#viewer@user:x", "read 0 0", "read 0 0 doc", "raw 0", "raw 0 ", "raw 0 0", "raw 0 0G", "raw 0 FF", "raw 0 --", "drain 0", "tuples", "ask 0 doc:a#viewer", "who 0 doc:a#viewer user:x", "text 1", "tick\t1", "schema\n", "load \x7f", "é", parts + " +doc:a#viewer@user:x", batch + " doc:a#viewer user:x"} {
		if got, e := Parse(s); e != api.ErrForm || !equal(got, Call{}) {
			t.Errorf("%q %v %d", s, got, e)
		}
	}
	if x, e := Parse(parts); e != api.OK || len(x.Request.Changes) != 80 {
		t.Error(e)
	}
	if x, e := Parse(batch); e != api.OK || len(x.Request.Items) != 81 {
		t.Error(e)
	}
	if MaxLine != 1<<20 || MaxParts != 80 {
		t.Error("constants")
	}
	if _, e := Parse("load " + strings.Repeat("\n", MaxLine-4)); e != api.ErrLimit {
		t.Error(e)
	}
	if x, e := Parse("load " + strings.Repeat("x", MaxLine-5)); e != api.OK || len(x.Text) != MaxLine-5 {
		t.Error(e)
	}
}

func TestP45_3Changes(t *testing.T) {
	c := sample(t)
	for i, x := range []struct {
		line string
		e    api.Errno
	}{
		{"flaw 300", api.ErrRange}, {"cut 9", api.ErrRange}, {"check 0 0 0 doc:a user:x", api.ErrForm}, {"tick 0", api.ErrRange}, {"check 0 256 0 doc:a#viewer user:x", api.ErrRange}, {"mutant 256", api.ErrRange}, {"mutant 0", api.ErrArg}, {"mutant 7", api.ErrArg}, {"flaw 7", api.ErrConfig}, {"client 3 1 1 1", api.ErrRange}, {"client 0 9 1 1", api.ErrConfig}, {"client 2 9 1 1", api.ErrConfig}, {"cap 0", api.ErrConfig}, {"cap 65", api.ErrConfig}, {"hedge 65", api.ErrConfig},
		{"schema x", api.ErrForm}, {"schema namespace a { relation b; }", api.ErrType}, {"schema namespace a { relation b: [a] = this - b; }", api.ErrStrata}, {"drop 6", api.ErrRange}, {"load x", api.ErrForm}, {"load", api.ErrForm}, {"load config 4 1 2 3 9 0 0~schema 0", api.ErrConfig}, {"check 16 0 0 doc:a#viewer user:x", api.ErrRange}, {"raw 16 -", api.ErrRange}, {"work 2", api.ErrRange}, {"collect 4611686018427387905", api.ErrRange}, {"raw 0 " + strings.Repeat("00", 65537), api.ErrLimit},
		{"batch 0 0 0" + strings.Repeat(" doc:a#viewer user:x", 9), api.ErrLimit}, {"write 0" + strings.Repeat(" +doc:a#viewer@user:x", 33), api.ErrLimit}, {"new 1", api.ErrForm},
	} {
		before := c.Script()
		if r, e := c.Do(x.line); r != "" || e != x.e || !scripts.Same(before, c.Script()) {
			t.Error(i, r, e)
		}
	}
	do(t, c, "replies", "0.0 0 wrote 2")
	for _, line := range []string{"cap 5", "classes 3", "age 4", "quantum 6", "budget 7", "hedge 8", "flaw 1", "client 1 3 4 5", "client 2 6 7 8"} {
		do(t, c, line, "ok")
	}
	want := api.Config{Clients: []api.Client{{Weight: 2, Rate: 1, Burst: 5}, {Weight: 3, Rate: 4, Burst: 5}, {Weight: 6, Rate: 7, Burst: 8}}, Cap: 5, Classes: 3, Age: 4, Quantum: 6, Budget: 7, Hedge: 8, Flaw: 1}
	if got := c.Script().Config; !equal(got, want) {
		t.Error(got)
	}
	do(t, c, "new", "ok")
	if !scripts.Same(c.Script(), New().Script()) {
		t.Error("new")
	}
	do(t, c, "schema namespace user {} namespace doc { relation viewer: [user]; }", "ok")
	do(t, c, "expand 1 1 1 doc:a#viewer", "0 0")
	do(t, c, "read 0 0 *:*#*", "1 0~1.0 0 told 1")
	do(t, c, "raw 0 01", "2 0~2.0 0 malformed 0")
	do(t, c, "raw 5 -", "3 4")
	do(t, c, "stall 1", "4 0")
	do(t, c, "stall 1", "5 9")
	do(t, c, "resume 1", "6 0")
	do(t, c, "collect 2000", "7 4")
	do(t, c, "tick 5", "8 0")
	do(t, c, "work 1", "9 0")
	do(t, c, "drain", "10 0")
	do(t, c, "work 1", "11 0~0.0 1 listed 1~-1.0 -1 drained 0")
	do(t, c, "write 0 +doc:a#viewer@user:x", "12 0~3.0 0 draining 0")
	do(t, c, "drop 10", "ok")
	do(t, c, "last", "3.0 0 wrote 2")
	do(t, c, "cut 2", "ok")
	do(t, c, "replies", "1.0 0 told 1")
	do(t, c, "batch 0 0 0 doc:a#viewer user:x doc:a#viewer user:y", "2 0")
	do(t, c, "mutant 4", "ok")
	do(t, c, "caught", "4")
	do(t, c, "flaw 4", "ok")
	do(t, c, "audit", "2 Pinned")
	long := New()
	if _, e := c.Do("flaw 255"); e != api.ErrConfig {
		t.Error(e)
	}
	if _, e := c.Do("mutant 255"); e != api.ErrArg {
		t.Error(e)
	}
	if r, e := c.Do("check 0 255 0 doc:x#viewer user:a"); !strings.HasSuffix(r, "malformed 0") || e != api.OK {
		t.Error(r, e)
	}
	b := strings.Repeat("drain~", 4095) + "drain"
	text, _ := long.Do("text")
	do(t, long, "load "+text+"~"+b, "ok")
	if _, e := long.Do("work 0"); e != api.ErrLimit {
		t.Error(e)
	}
}

func TestP45_4Questions(t *testing.T) {
	c := New()
	for line, want := range map[string]string{"errors": "none", "replies": "none", "last": "none", "kept": "1", "pins": "none", "lanes": "free free", "flights": "none", "tuples 0": "none", "waiting": "0 0", "tokens": "5 5", "audit": "none", "caught": "none", "who 1 doc:a#viewer": "none", "ask 1 doc:a#viewer user:x": "no 14"} {
		if line == "ask 1 doc:a#viewer user:x" {
			if got, e := c.Do(line); e != api.OK || !strings.HasPrefix(got, "no ") {
				t.Error(got, e)
			}
			continue
		}
		do(t, c, line, want)
	}
	c = sample(t)
	before := c.Script()
	do(t, c, "state", "time 0 tickets 2 works 4 round 0 turn 0 credit 0 flights 1 draining 0")
	do(t, c, "lanes", "free free")
	do(t, c, "ask 0 doc:a#viewer user:x", "yes 18")
	do(t, c, "who 2 doc:a#editor", "user:x")
	do(t, c, "tuples 1", "none")
	do(t, c, "tuples 2", "doc:a#owner@user:x")
	do(t, c, "errors", "0 0 0 0 0 0")
	do(t, c, "last", "none")
	do(t, c, "kept", "1 2")
	do(t, c, "pins", "2:1")
	do(t, c, "waiting", "1 0")
	do(t, c, "tokens", "3 5")
	do(t, c, "flights", "0 0 0 2 10 1")
	do(t, c, "why 2 doc:a#owner user:x", "doc:a#owner yes 1")
	do(t, c, "why 2 doc:a#editor user:x", "doc:a#editor yes 3~doc:a#owner yes 2")
	do(t, c, "bound", strconv.Itoa((2+4)*3*(2*2+1+2*21*5)))
	do(t, c, "totals", "requests 2 items 1 answers 0 budgets 0 sheds 0 writes 1 takes 2 stale 0 longest 0")
	do(t, c, "audit", "none")
	do(t, c, "caught", "none")
	for line, e := range map[string]api.Errno{"tuples 3": api.ErrRevision, "ask 3 doc:a#none user:x": api.ErrRevision, "who 9 doc:a#none": api.ErrRevision, "why 9 doc:a#none user:x": api.ErrRevision, "ask 2 doc:a#none user:x": api.ErrName, "who 2 doc:a#none": api.ErrName, "why 2 doc:a#none user:x": api.ErrName} {
		if got, f := c.Do(line); got != "" || f != e {
			t.Error(line, got, f)
		}
	}
	if !scripts.Same(before, c.Script()) {
		t.Error("a line that asks has changed something")
	}
	do(t, c, "work 1", "6 0")
	do(t, c, "stall 0", "7 0")
	do(t, c, "lanes", "free! 0.2")
	do(t, c, "stall 1", "8 0")
	do(t, c, "lanes", "free! 0.2!")
	do(t, c, "check 1 1 1 doc:b#owner user:x", "9 0")
	do(t, c, "flights", "0 0 0 2 10 1~1 1 1 0 0 1")
	do(t, c, "pins", "1:1 2:1")
	big := New()
	for range 8 {
		if _, e := big.Do("raw 0 " + strings.Repeat("00", 65536)); e != api.OK {
			t.Error(e)
		}
	}
	if got, e := big.Do("text"); got != "" || e != api.ErrLimit {
		t.Error(e)
	}
}

func TestP45_5Play(t *testing.T) {
	l := New().Play([]string{"write 0 +doc:a#owner@user:x", "x", "cap 0", "kept", ""})
	if !slices.Equal(l, []Answer{{"0 0~0.0 0 wrote 2", 0}, {"", api.ErrForm}, {"", api.ErrConfig}, {"1 2", 0}, {"", api.ErrForm}}) || cap(l) != 5 {
		t.Error(l)
	}
	if len(New().Play(nil)) != 0 {
		t.Error("no lines")
	}
}

// random returns a line.
func random(r *rand.Rand) string {
	id := func() string { return string(rune('a' + r.Intn(2))) }
	n := func(n int) string { return strconv.Itoa(r.Intn(n)) }
	goals := []string{"doc:" + id() + "#viewer", "doc:" + id() + "#editor", "group:" + id() + "#member", "doc:" + id() + "#x"}
	facts := []string{"doc:" + id() + "#owner@user:" + id(), "doc:" + id() + "#parent@folder:" + id(), "folder:" + id() + "#viewer@group:" + id() + "#member", "group:" + id() + "#member@user:" + id(), "doc:" + id() + "#banned@user:" + id()}
	g, u := goals[r.Intn(4)], "user:"+id()
	lines := []string{
		"check " + n(3) + " " + n(3) + " " + n(3) + " " + g + " " + u, "expand " + n(2) + " 0 0 " + g, "batch 0 0 0 " + g + " " + u + " doc:a#viewer " + u, "write " + n(2) + " +" + facts[r.Intn(5)] + " -" + facts[r.Intn(5)], "write 0 ?" + facts[r.Intn(5)] + " +" + facts[r.Intn(5)], "read 0 " + n(3) + " doc:*#*",
		"work " + n(2), "work " + n(2), "work 0", "work 1", "tick " + n(3), "collect " + n(4), "stall " + n(3), "resume " + n(2), "raw 0 0" + n(9), "cut " + n(30), "drop " + n(30), "budget " + n(100), "hedge " + n(4), "quantum " + n(9), "client " + n(4) + " 1 2 3", "cap " + n(6),
	}
	return lines[r.Intn(len(lines))]
}

func TestP45_6Consequences(t *testing.T) {
	asks := []string{"text", "errors", "replies", "last", "state", "waiting", "tokens", "kept", "pins", "lanes", "flights", "tuples 0", "ask 0 doc:a#viewer user:a", "who 0 doc:a#viewer", "why 0 doc:a#editor user:a", "audit", "bound", "totals", "caught"}
	for seed := range int64(12) {
		r := rand.New(rand.NewSource(seed))
		c := New()
		for range 80 {
			c.Do(random(r))
		}
		s := c.Script()
		if scripts.Check(s) != api.OK {
			t.Fatal("not valid")
		}
		text, e := c.Do("text")
		d := New()
		if reply, e2 := d.Do("load " + text); e != api.OK || reply != "ok" || e2 != api.OK || !scripts.Same(d.Script(), s) {
			t.Fatal(e, e2)
		}
		if !equal(c.Play(asks), d.Play(asks)) || !equal(c.Play(asks), c.Copy().Play(asks)) {
			t.Fatal("the same script")
		}
		do(t, c, "audit", "none")
	}
	c := New()
	c.Play([]string{"write 0 +doc:a#owner@user:x +doc:b#viewer@user:x", "client 0 1 5 5", "tick 9"})
	for _, line := range []string{"doc:a#viewer user:x", "doc:b#viewer user:y", "doc:b#banned user:x"} {
		want, _ := c.Do("ask 2 " + line)
		var last []api.Reply
		c.Play([]string{"check 0 0 2 " + line, "tick 5"})
		for range 20 {
			reply, _ := c.Do("work 0")
			if _, text, found := strings.Cut(reply, "~"); found {
				r, _ := requests.Parse(text)
				last = append(last, r)
			}
		}
		if len(last) != 1 || last[0].Yes != strings.HasPrefix(want, "yes ") || last[0].Rev != 2 {
			t.Error(line, want, last)
		}
	}
}
