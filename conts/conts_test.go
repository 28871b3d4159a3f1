package conts

import (
	"bytes"
	"math/rand"
	"slices"
	"strings"
	"testing"

	"countersign/api"
	"countersign/codecs"
	"countersign/names"
	"countersign/parsers"
	"countersign/refs"
	"countersign/sets"
	"countersign/traverses"
	"countersign/tuples"
)

const sample = "namespace doc { relation parent: [folder]; relation owner: [user]; relation viewer: [user, group#member] = (this | owner | parent->viewer) - banned; relation banned: [user]; } namespace folder { relation viewer: [user]; } namespace group { relation member: [user, group#member]; } namespace user {}"

const facts = "doc:x#parent@folder:f doc:x#owner@user:a doc:x#viewer@group:g#member doc:x#viewer@user:b"

// world returns the world of the schema and some tuples.
func world(t *testing.T, facts string) refs.World {
	t.Helper()
	var l []api.Tuple
	for _, s := range strings.Fields(facts) {
		x, e := tuples.Parse(s)
		if e != api.OK {
			t.Fatal(s, e)
		}
		l = append(l, x)
	}
	set, _ := sets.Of(l)
	s, _, _ := parsers.Parse(sample)
	w, e := refs.New(s, set)
	if e != api.OK {
		t.Fatal(e)
	}
	return w
}

// random returns tuples that fit.
func random(r *rand.Rand, n int) string {
	all := []string{"doc:A#parent@folder:B", "doc:A#owner@user:B", "doc:A#viewer@user:B", "doc:A#viewer@group:B#member", "doc:A#banned@user:B", "folder:A#viewer@user:B", "group:A#member@user:B", "group:A#member@group:B#member"}
	var out []string
	for range n {
		out = append(out, strings.NewReplacer("A", string(rune('a'+r.Intn(3))), "B", string(rune('a'+r.Intn(3)))).Replace(all[r.Intn(len(all))]))
	}
	return strings.Join(out, " ")
}

func goal(t *testing.T, s string) api.Goal {
	t.Helper()
	g, e := names.ParseGoal(s)
	if e != api.OK {
		t.Fatal(s, e)
	}
	return g
}

func check(t *testing.T, g, u string) api.Query {
	return api.Query{Kind: api.Check, Goal: goal(t, g), User: api.Object{Space: "user", ID: u}}
}

func expand(t *testing.T, g string) api.Query {
	return api.Query{Kind: api.Expand, Goal: goal(t, g)}
}

func after(t *testing.T, w traverses.World, q api.Query, k int) traverses.Traversal {
	t.Helper()
	x, e := traverses.New(w, q)
	if e != api.OK {
		t.Fatal(e)
	}
	x, _, e = traverses.Step(w, x, k)
	if e != api.OK {
		t.Fatal(e)
	}
	return x
}

// coded returns the bytes of numbers, goals, queries and objects.
func coded(l ...any) []byte {
	w := &codecs.Writer{}
	for _, x := range l {
		switch x := x.(type) {
		case int:
			w.Number(uint64(x))
		case api.Goal:
			w.Goal(x)
		case api.Query:
			w.Query(x)
		case api.Object:
			w.Object(x)
		}
	}
	return w.Bytes()
}

func TestP29_1OfCheck(t *testing.T) {
	w := world(t, facts)
	c := Of(after(t, w, check(t, "doc:x#viewer", "a"), 9))
	if c.Steps != 9 || len(c.Goals) != 5 || c.At != 5 || !c.Solving || len(c.Truths) != 5 || len(c.Ranks) != 5 || len(c.Sets) != 0 || Check(c) != api.OK {
		t.Error(c)
	}
	x := after(t, w, expand(t, "doc:x#viewer"), 19)
	c = Of(x)
	if !c.Over || len(c.Sets) != 5 || len(c.Truths) != 0 || len(c.Sets[0]) != 2 || c.Level != 2 || Check(c) != api.OK {
		t.Error(c)
	}
	if c.Sets[0][0].ID = "q"; x.Sweep.Values[0][0].ID != "a" {
		t.Error("shared")
	}
	odd := after(t, w, check(t, "doc:x#viewer", "a"), 3)
	odd.Truth.Level, odd.Over, odd.Truth.Values = 4, true, []bool{true}
	if c := Of(odd); c.Solving || c.Level != 0 || c.Over || len(c.Truths) != 0 {
		t.Error("a search that is not done")
	}
	long := strings.Repeat("x", 17)
	for i, change := range []func(c *Cont){
		func(c *Cont) {}, func(c *Cont) { c.Query.Kind = 3 }, func(c *Cont) { c.Steps = -1 }, func(c *Cont) { c.At = -1 }, func(c *Cont) { c.Ref = -1 }, func(c *Cont) { c.Level = -1 }, func(c *Cont) { c.Pos = -1 }, func(c *Cont) { c.Ranks[2] = -1 }, func(c *Cont) { c.Query.User.ID = long }, func(c *Cont) { c.Query.Goal.Rel = long },
		func(c *Cont) { c.Goals[1].Object.Space = long }, func(c *Cont) { c.Sets[0][1].ID = long }, func(c *Cont) { c.Sets = c.Sets[1:] }, func(c *Cont) { c.Truths = make([]bool, 5) }, func(c *Cont) { c.Ranks = nil }, func(c *Cont) { c.Sets[0] = make([]api.Object, 4097) }, func(c *Cont) { c.Goals = make([]api.Goal, 131073) }, func(c *Cont) { c.Solving = false },
	} {
		c := Of(x)
		if change(&c); (Check(c) == api.OK) != (i == 0) {
			t.Error(i)
		}
		if b, e := Bytes(c); i > 0 && (e != api.ErrForm || len(b) != 0) {
			t.Error(i, e)
		}
	}
	for i, c := range []Cont{{Level: 1}, {Pos: 1}, {Changed: true}, {Over: true}, {Truths: []bool{true}}, {Ranks: []int{0}}, {Sets: make([][]api.Object, 1)}} {
		if c.Query.Kind = 1; Check(c) != api.ErrForm {
			t.Error(i)
		}
	}
	name := long[:16]
	if Check(Cont{Query: api.Query{Kind: 1, Goal: api.Goal{Rel: name}, User: api.Object{Space: name, ID: name}}, Goals: make([]api.Goal, 131072)}) != api.OK {
		t.Error("the longest texts, and the most goals")
	}
	if Check(Cont{Query: api.Query{Kind: 1}, Goals: make([]api.Goal, 131073)}) != api.ErrForm {
		t.Error("too many goals")
	}
	if Check(Cont{Query: api.Query{Kind: 2}, Goals: make([]api.Goal, 1), Solving: true, Sets: [][]api.Object{make([]api.Object, 4096)}, Ranks: []int{0}}) != api.OK {
		t.Error("the most objects")
	}
	if Check(Cont{Query: api.Query{Kind: 2}}) != api.OK || Check(Cont{Query: api.Query{Kind: 2}, Solving: true, Level: 9, Pos: 7, Changed: true, Over: true}) != api.OK {
		t.Error("small continuations")
	}
}

func TestP29_2BytesRead(t *testing.T) {
	w := world(t, facts)
	q := check(t, "doc:x#owner", "a")
	first := coded(q, 0, 1, q.Goal, 0, 0, 0)
	for k, want := range [][]byte{first, coded(q, 1, 1, q.Goal, 1, 0, 1, 0, 0, 0, 0, 0, 0), coded(q, 2, 1, q.Goal, 1, 0, 1, 0, 0, 0, 1, 1, 0), coded(q, 3, 1, q.Goal, 1, 0, 1, 1, 0, 0, 1, 1, 1)} {
		if b, e := Bytes(Of(after(t, w, q, k))); e != api.OK || !bytes.Equal(b, want) {
			t.Error(k, b, e)
		}
	}
	if c, _, e := Read(coded(q, 1<<63-1, 1, q.Goal, 1<<63-1, 0, 0)); e != api.OK || c.Steps != 1<<63-1 || c.At != 1<<63-1 || cap(c.Goals) != 1 {
		t.Error(e)
	}
	b, _ := Bytes(Of(after(t, w, check(t, "doc:x#viewer", "a"), 19)))
	d, _ := Bytes(Of(after(t, w, expand(t, "doc:x#viewer"), 19)))
	x, _, _ := Read(b)
	y, _, _ := Read(d)
	if cap(x.Truths) != 5 || cap(x.Ranks) != 5 || cap(x.Goals) != 5 || cap(y.Sets) != 5 || cap(y.Sets[0]) != 2 {
		t.Error("spare capacity")
	}
	if len(first) != 37 {
		t.Error(len(first))
	}
	p := expand(t, "doc:x#owner")
	o := api.Object{Space: "user", ID: "a"}
	head := len(coded(q))
	big := []byte{255, 255, 255, 255, 255, 255, 255, 255, 255, 1}
	for i, x := range []struct {
		b  []byte
		at int
		e  api.Errno
	}{
		{first, 0, 0}, {first[:36], 36, api.ErrShort}, {nil, 0, api.ErrShort}, {append(slices.Clone(first), 0), 37, api.ErrForm}, {coded(p, 3, 1, p.Goal, 1, 0, 1, 1, 0, 0, 1, o, 1, 1), 0, 0}, {coded(api.Query{Kind: 3}, 0), 0, api.ErrForm}, {coded(api.Query{Kind: 3}), 0, api.ErrForm}, {coded(api.Query{Kind: 3})[:3], 3, api.ErrShort},
		{append(coded(q), big...), head, api.ErrForm}, {append(coded(q, 0, 0), big...), head + 2, api.ErrForm}, {append(append(coded(q), big...), 128, 0), head, api.ErrForm}, {coded(q, 0, 131073), head + 1, api.ErrLimit}, {coded(q, 0, 131072), head + 4, api.ErrShort}, {coded(q, 0, 0, 0, 0, 2), head + 4, api.ErrForm}, {append(coded(q, 0, 0, 0, 0, 1), big...), head + 5, api.ErrForm},
		{coded(p, 0, 1, q.Goal, 0, 0, 1, 0, 0, 0, 4097), len(coded(p, 0, 1, q.Goal, 0, 0, 1, 0, 0, 0)), api.ErrLimit}, {append(coded(q, 0, 1, q.Goal, 0, 0, 1, 0, 0, 0, 1), big...), len(coded(q, 0, 1, q.Goal, 0, 0, 1, 0, 0, 0, 1)), api.ErrForm}, {coded(q, 0, 1, 17), head + 2, api.ErrLimit},
	} {
		c, at, e := Read(x.b)
		if at != x.at || e != x.e || e != api.OK && !Same(c, Cont{}) {
			t.Error(i, at, e)
		}
	}
}

func TestP29_3Resume(t *testing.T) {
	w := world(t, facts)
	q := check(t, "doc:x#viewer", "a")
	c := Of(after(t, w, q, 12))
	if x, e := Resume(w, c); e != api.OK || !Same(Of(x), c) || traverses.Check(w, x) != api.OK {
		t.Error(e)
	}
	for i, change := range []func(c *Cont){
		func(c *Cont) { c.Steps = 11 }, func(c *Cont) { c.Steps = -1 }, func(c *Cont) { c.Steps = 1 << 62 }, func(c *Cont) { c.Truths[0] = true }, func(c *Cont) { c.Ranks[1] = 1 }, func(c *Cont) { c.Goals = c.Goals[:4] }, func(c *Cont) { c.Over = true }, func(c *Cont) { c.Query.Goal.Rel = "owner" }, func(c *Cont) { *c = Cont{Query: c.Query} },
	} {
		c := Of(after(t, w, q, 12))
		change(&c)
		if x, e := Resume(w, c); e != api.ErrState || x.Query.Kind != 0 {
			t.Error(i, e)
		}
	}
	c.Query.Kind = 3
	_, e1 := Resume(w, c)
	_, e2 := Resume(refs.World{}, c)
	if e1 != api.ErrKind || e2 != api.ErrNil {
		t.Error(e1, e2)
	}
}

func TestP29_4Go(t *testing.T) {
	w := world(t, facts)
	q := check(t, "doc:x#viewer", "a")
	b, _ := Bytes(Of(after(t, w, q, 0)))
	out, n, e := Go(w, b, 7)
	want, _ := Bytes(Of(after(t, w, q, 7)))
	if e != api.OK || n != 7 || !bytes.Equal(out, want) {
		t.Error(n, e)
	}
	if _, n, e := Go(w, out, 100); n != 12 || e != api.OK {
		t.Error(n, e)
	}
	wrong, _ := Bytes(Cont{Query: q})
	for i, x := range []struct {
		w traverses.World
		b []byte
		k int
		e api.Errno
	}{{w, b[:5], -1, api.ErrShort}, {w, wrong, -1, api.ErrState}, {w, b, -1, api.ErrArg}, {refs.World{}, b, 1, api.ErrNil}, {refs.World{}, nil, 1, api.ErrShort}} {
		if out, n, e := Go(x.w, x.b, x.k); e != x.e || len(out) != 0 || n != 0 {
			t.Error(i, e)
		}
	}
}

func TestP29_5Same(t *testing.T) {
	w := world(t, facts)
	x := after(t, w, expand(t, "doc:x#viewer"), 15)
	for i, change := range []func(c *Cont){
		func(c *Cont) { c.Query.Kind = 1 }, func(c *Cont) { c.Steps++ }, func(c *Cont) { c.Goals[4].Rel = "x" }, func(c *Cont) { c.At++ }, func(c *Cont) { c.Ref++ }, func(c *Cont) { c.Solving = false }, func(c *Cont) { c.Level++ }, func(c *Cont) { c.Pos++ }, func(c *Cont) { c.Changed = !c.Changed }, func(c *Cont) { c.Truths = []bool{true} }, func(c *Cont) { c.Sets[2][0].ID = "q" }, func(c *Cont) { c.Ranks[0]++ }, func(c *Cont) { c.Over = true },
	} {
		a, b := Of(x), Of(x)
		if !Same(a, b) {
			t.Error(i)
		}
		if change(&b); Same(a, b) {
			t.Error(i)
		}
	}
	if !Same(Cont{Sets: [][]api.Object{nil}}, Cont{Sets: [][]api.Object{{}}, Goals: []api.Goal{}, Truths: []bool{}}) {
		t.Error("empty lists")
	}
}

func TestP29_6Consequences(t *testing.T) {
	r := rand.New(rand.NewSource(1))
	for range 60 {
		w := world(t, random(r, 14))
		for _, q := range []api.Query{check(t, "doc:a#viewer", "a"), expand(t, "doc:a#viewer")} {
			end := after(t, w, q, 1<<40)
			last, _ := Bytes(Of(end))
			b, _ := Bytes(Of(after(t, w, q, 0)))
			for n, e := 1, api.OK; n > 0; {
				c, at, e1 := Read(b)
				again, e2 := Bytes(c)
				x, e3 := Resume(w, c)
				if e1 != api.OK || at != 0 || e2 != api.OK || !bytes.Equal(again, b) || e3 != api.OK || !Same(Of(x), c) {
					t.Fatal(e1, e2, e3)
				}
				if b, n, e = Go(w, b, r.Intn(5)+1); e != api.OK {
					t.Fatal(e)
				}
			}
			if !bytes.Equal(b, last) {
				t.Fatal("portions")
			}
			c, _, _ := Read(b)
			yes, users, _ := end.Answer()
			if !c.Over || q.Kind == api.Check && c.Truths[0] != yes || q.Kind == api.Expand && !slices.Equal(c.Sets[0], users) {
				t.Fatal("the answer")
			}
		}
	}
}
