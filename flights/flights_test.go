package flights

import (
	"math/rand"
	"slices"
	"testing"

	"countersign/api"
	"countersign/queues"
)

func query1(id string) api.Query {
	return api.Query{Kind: api.Check, Goal: api.Goal{Object: api.Object{Space: "doc", ID: id}, Rel: "viewer"}, User: api.Object{Space: "user", ID: "a"}}
}

var a, b = query1("a"), query1("b")

// join lets an item (ticket, item, client, class) join, which is no error.
func join(t *testing.T, x Table, q api.Query, rev uint64, item [4]int, round int64) (Table, int, bool) {
	t.Helper()
	x, id, made, e := Join(x, q, rev, Item{item[0], item[1], item[2], item[3], rev}, round, false)
	if e != api.OK {
		t.Fatal(e)
	}
	if e := Check(x); e != api.OK {
		t.Fatal(e)
	}
	return x, id, made
}

// sample is the table of the chapter's example.
func sample(t *testing.T) Table {
	t.Helper()
	var x Table
	for i, c := range []struct {
		q    api.Query
		rev  uint64
		item [4]int
		id   int
		made bool
	}{{a, 1, [4]int{0, 0, 0, 2}, 0, true}, {a, 1, [4]int{1, 0, 3, 1}, 0, false}, {a, 2, [4]int{2, 0, 0, 0}, 1, true}, {b, 1, [4]int{2, 1, 0, 0}, 2, true}} {
		var id int
		var made bool
		if x, id, made = join(t, x, c.q, c.rev, c.item, 5); id != c.id || made != c.made {
			t.Fatal(i, id, made)
		}
	}
	return x
}

// twin returns an equal table in new memory.
func twin(x Table) Table {
	x.Flights = slices.Clone(x.Flights)
	for i, f := range x.Flights {
		x.Flights[i].Items = slices.Clone(f.Items)
	}
	return x
}

func TestP39_1Check(t *testing.T) {
	if Check(Table{}) != api.OK || Check(sample(t)) != api.OK {
		t.Error("valid tables")
	}
	for i, c := range []struct {
		change func(x *Table)
		e      api.Errno
	}{
		{func(x *Table) { x.Next = -1 }, api.ErrRange}, {func(x *Table) { x.Next = 1 << 31 }, api.ErrRange}, {func(x *Table) { x.Next = 2 }, api.ErrRange}, {func(x *Table) { x.Flights[0].Items = make([]Item, 1023) }, api.ErrLimit}, {func(x *Table) { x.Flights[0].ID = -1 }, api.ErrRange}, {func(x *Table) { x.Flights[0].Rev = 0 }, api.ErrRange}, {func(x *Table) { x.Flights[0].Since = -1 }, api.ErrRange}, {func(x *Table) { x.Flights[0].Since = 1<<62 + 1 }, api.ErrRange},
		{func(x *Table) { x.Flights[0].Version = 1<<20 + 1 }, api.ErrRange}, {func(x *Table) { x.Flights[0].Version = -1 }, api.ErrRange}, {func(x *Table) { x.Flights[0].Spent = 1<<20 + 1 }, api.ErrRange}, {func(x *Table) { x.Flights[0].Spent = -1 }, api.ErrRange}, {func(x *Table) { x.Flights[1].ID = 0 }, api.ErrOrder}, {func(x *Table) { x.Flights[1].Since = 4 }, api.ErrOrder}, {func(x *Table) { x.Flights[1].ID = 0; x.Flights[1].Query.Kind = 0 }, api.ErrOrder},
		{func(x *Table) { x.Flights[1].Query.Kind = 3 }, api.ErrKind}, {func(x *Table) { x.Flights[1].Query.Goal.Rel = "" }, api.ErrName}, {func(x *Table) { x.Flights[1].Query.User.ID = "" }, api.ErrName}, {func(x *Table) { x.Flights[1].Query.Kind = 2 }, api.ErrForm}, {func(x *Table) { x.Flights[1].Items = nil }, api.ErrEmpty}, {func(x *Table) { x.Flights[1].Items[0].Ticket = -1 }, api.ErrRange}, {func(x *Table) { x.Flights[1].Items[0].Ticket = 1 << 31 }, api.ErrRange},
		{func(x *Table) { x.Flights[1].Items[0].Item = 8 }, api.ErrRange}, {func(x *Table) { x.Flights[1].Items[0].Rev = 0 }, api.ErrRange}, {func(x *Table) { x.Flights[1].Items[0].Rev = 9 }, 0}, {func(x *Table) { x.Flights[0].Items[1].Class = 8 }, api.ErrRange}, {func(x *Table) { x.Flights[0].Items[1].Client = 16 }, api.ErrRange}, {func(x *Table) { x.Flights[0].Items[1].Client = 15 }, 0}, {func(x *Table) { x.Flights[0].Items[0].Class = 8 }, api.ErrRange}, {func(x *Table) { x.Flights[0].Items[0].Class = 7 }, 0}, {func(x *Table) { x.Flights[2].Since = 1 << 62 }, 0}, {func(x *Table) { x.Flights[0].Items[0].Ticket = 1<<31 - 1 }, 0}, {func(x *Table) { x.Flights[0].Client = 3 }, api.ErrRange}, {func(x *Table) { x.Flights[0].Class = 2 }, api.ErrRange}, {func(x *Table) { x.Flights[0].Class = 0 }, api.ErrRange},
		{func(x *Table) { x.Flights[1].Rev = 1 }, api.ErrTwice}, {func(x *Table) { x.Flights[0].Items = nil; x.Flights[1].ID = 0 }, api.ErrEmpty},
	} {
		x := twin(sample(t))
		c.change(&x)
		if e := Check(x); e != c.e {
			t.Error(i, e)
		}
		_, _, _, e1 := Join(x, api.Query{}, 0, Item{}, -1, false)
		_, e2 := Find(x, 99)
		_, e3 := Commit(x, 99, -1)
		_, _, e4 := Land(x, 99)
		_, e5 := Waiting(x, 99)
		_, e6 := Pins(x)
		_, e7 := Queue(x, 99)
		if c.e != api.OK && (e1 != c.e || e2 != c.e || e3 != c.e || e4 != c.e || e5 != c.e || e6 != c.e || e7 != c.e) {
			t.Error(i, e1, e2, e3, e4, e5, e6, e7)
		}
	}
}

func TestP39_2Join(t *testing.T) {
	x := sample(t)
	f, _ := Find(x, 0)
	if f.Class != 1 || f.Client != 0 || f.Since != 5 || len(f.Items) != 2 || f.Items[1] != (Item{1, 0, 3, 1, 1}) || x.Next != 3 {
		t.Error(f)
	}
	first, _, _ := join(t, Table{}, a, 1, [4]int{0, 0, 0, 2}, 5)
	second, _, _ := join(t, first, a, 1, [4]int{1, 0, 0, 0}, 9)
	if len(first.Flights[0].Items) != 1 || first.Flights[0].Class != 2 || cap(second.Flights[0].Items) != 2 || cap(second.Flights) != 1 {
		t.Error("a table has changed")
	}
	late, _, _ := Land(x, 0)
	if _, id, made, e := Join(late, a, 1, Item{3, 0, 1, 0, 1}, 5, true); id != 1 || made || e != api.OK {
		t.Error(id, made, e)
	}
	if _, id, made, e := Join(late, a, 1, Item{3, 0, 1, 0, 1}, 5, false); id != 3 || !made || e != api.OK {
		t.Error(id, made, e)
	}
	ok := Item{1, 1, 1, 1, 1}
	full := x
	full.Next = 1<<31 - 1
	for i, c := range []struct {
		x     Table
		q     api.Query
		rev   uint64
		item  Item
		round int64
		e     api.Errno
	}{
		{first, a, 1, ok, 4, api.ErrRange}, {first, api.Query{}, 0, Item{}, 4, api.ErrKind}, {first, api.Query{Kind: 1}, 1, ok, 5, api.ErrName}, {first, api.Query{Kind: 2, Goal: a.Goal, User: a.User}, 1, ok, 5, api.ErrForm}, {first, a, 0, ok, 5, api.ErrRange}, {first, a, 1, Item{}, 5, api.ErrRange}, {Table{}, a, 1, ok, -1, api.ErrRange}, {Table{}, a, 1, ok, 1<<62 + 1, api.ErrRange},
		{full, a, 1, ok, 5, 0}, {full, a, 3, ok, 5, api.ErrLimit},
	} {
		if x, id, made, e := Join(c.x, c.q, c.rev, c.item, c.round, false); e != c.e || e != api.OK && (id != 0 || made || len(x.Flights) != 0) {
			t.Error(i, e)
		}
	}
	for range 1023 {
		first, _, _ = join(t, first, a, 1, [4]int{1, 0, 0, 0}, 9)
	}
	if _, _, _, e := Join(first, a, 1, ok, 9, false); e != api.ErrLimit {
		t.Error(e)
	}
}

func TestP39_3FindCommitLand(t *testing.T) {
	x := sample(t)
	y, e1 := Commit(x, 0, 7)
	y, e2 := Commit(y, 0, 5)
	z, f, e3 := Land(y, 0)
	if e1 != api.OK || e2 != api.OK || e3 != api.OK || f.Version != 2 || f.Spent != 12 || len(f.Items) != 2 || len(z.Flights) != 2 || cap(z.Flights) != 2 || len(y.Flights) != 3 || x.Flights[0].Version != 0 {
		t.Error(f, e1, e2, e3)
	}
	if f, e := Find(y, 0); e != api.OK || f.Spent != 12 {
		t.Error(f, e)
	}
	_, _, e1 = Land(z, 0)
	_, e2 = Find(z, 0)
	_, e3 = Commit(z, 0, -1)
	if n, e := Waiting(z, 99); n != 0 || e != api.ErrRange {
		t.Error(n, e)
	}
	if e1 != api.ErrNone || e2 != api.ErrNone || e3 != api.ErrNone {
		t.Error(e1, e2, e3)
	}
	f, _ = Find(x, 1)
	f.Items[0].Ticket = 99
	if x.Flights[1].Items[0].Ticket == 99 {
		t.Error("shared")
	}
	for i, c := range []struct {
		version, spent, steps int
		e                     api.Errno
	}{{0, 0, -1, api.ErrRange}, {1 << 20, 0, 0, api.ErrRange}, {1<<20 - 1, 0, 0, 0}, {0, 1 << 20, 1, api.ErrRange}, {0, 1, 1<<20 - 1, 0}, {0, 1, 1 << 20, api.ErrRange}, {0, 1, 1<<63 - 1, api.ErrRange}} {
		x := twin(sample(t))
		x.Flights[1].Version, x.Flights[1].Spent = c.version, c.spent
		if y, e := Commit(x, 1, c.steps); e != c.e || e != api.OK && len(y.Flights) != 0 {
			t.Error(i, e)
		}
	}
}

func TestP39_4WaitingPinsQueue(t *testing.T) {
	x := sample(t)
	for client, want := range map[int]int{0: 3, 3: 1, 15: 0} {
		if n, e := Waiting(x, client); n != want || e != api.OK {
			t.Error(client, n, e)
		}
	}
	if l, e := Pins(x); e != api.OK || !slices.Equal(l, []Pin{{1, 3}, {2, 1}}) || cap(l) != 2 {
		t.Error(l, e)
	}
	q, e := Queue(x, 0)
	if e != api.OK || !slices.Equal(q.Entries, []queues.Entry{{ID: 0, Class: 1, Since: 5}, {ID: 1, Class: 0, Since: 5}, {ID: 2, Class: 0, Since: 5}}) || queues.Check(q) != api.OK || cap(q.Entries) != 3 {
		t.Error(q, e)
	}
	if q, e := Queue(x, 3); len(q.Entries) != 0 || e != api.OK {
		t.Error(q, e)
	}
	for _, client := range []int{-1, 16} {
		_, e1 := Waiting(x, client)
		_, e2 := Queue(x, client)
		if e1 != api.ErrRange || e2 != api.ErrRange {
			t.Error(client)
		}
	}
	for rev := uint64(10); rev < 72; rev++ {
		if q, e := Queue(x, 0); e != api.OK || len(q.Entries) != int(rev)-7 {
			t.Error(rev, e)
		}
		x, _, _ = join(t, x, a, rev, [4]int{1, 0, 0, 0}, 9)
	}
	if _, e := Queue(x, 0); e != api.ErrLimit {
		t.Error(e)
	}
}

func TestP39_5FanSame(t *testing.T) {
	x := sample(t)
	users := []api.Object{{Space: "user", ID: "b"}}
	l := Fan(x.Flights[0], api.Listed, true, users)
	if len(l) != 2 || cap(l) != 2 || l[1].Ticket != 1 || l[1].Client != 3 || l[1].Rev != 1 || l[1].Kind != api.Listed || !l[1].Yes || !slices.Equal(l[1].Users, users) {
		t.Error(l)
	}
	if l[0].Users[0].ID = "q"; l[1].Users[0].ID != "b" || users[0].ID != "b" {
		t.Error("shared")
	}
	odd := Fan(Flight{Items: []Item{{Ticket: -5, Item: 99, Client: -3}}}, 200, false, nil)
	if len(odd) != 1 || odd[0].Ticket != -5 || odd[0].Item != 99 || odd[0].Client != -3 || odd[0].Kind != 200 || len(Fan(Flight{}, 1, true, nil)) != 0 {
		t.Error(odd)
	}
	for i, change := range []func(x *Table){
		func(x *Table) { x.Next++ }, func(x *Table) { x.Flights = x.Flights[1:] }, func(x *Table) { x.Flights[0].ID++ }, func(x *Table) { x.Flights[0].Rev++ }, func(x *Table) { x.Flights[0].Query.Kind++ }, func(x *Table) { x.Flights[0].Client++ }, func(x *Table) { x.Flights[0].Class++ }, func(x *Table) { x.Flights[0].Since++ }, func(x *Table) { x.Flights[0].Version++ }, func(x *Table) { x.Flights[0].Spent++ }, func(x *Table) { x.Flights[0].Items[1].Ticket++ },
	} {
		y := twin(x)
		if !Same(x, y) {
			t.Error(i)
		}
		if change(&y); Same(x, y) {
			t.Error(i)
		}
	}
	if !Same(Table{}, Table{Flights: []Flight{}}) {
		t.Error("no flights")
	}
}

func TestP39_6Consequences(t *testing.T) {
	r := rand.New(rand.NewSource(1))
	var x Table
	ticket, waits := 0, 0
	for range 400 {
		if len(x.Flights) > 0 && r.Intn(3) == 0 {
			f := x.Flights[r.Intn(len(x.Flights))]
			next, landed, e := Land(x, f.ID)
			if e != api.OK || len(landed.Items) != len(f.Items) || Check(next) != api.OK {
				t.Fatal(e)
			}
			x, waits = next, waits-len(f.Items)
		} else {
			q := []api.Query{a, b}[r.Intn(2)]
			rev := uint64(r.Intn(3) + 1)
			there := slices.ContainsFunc(x.Flights, func(f Flight) bool { return f.Query == q && f.Rev == rev })
			next, id, made := join(t, x, q, rev, [4]int{ticket, r.Intn(8), r.Intn(4), r.Intn(8)}, int64(ticket))
			f, _ := Find(next, id)
			if made == there || f.Query != q || f.Rev != rev || f.Items[len(f.Items)-1].Ticket != ticket || made && next.Flights[len(next.Flights)-1].ID != id {
				t.Fatal("Join")
			}
			x, waits, ticket = next, waits+1, ticket+1
		}
		l, _ := Pins(x)
		sum, all := 0, 0
		for _, p := range l {
			sum += p.N
		}
		for client := range 16 {
			n, _ := Waiting(x, client)
			all += n
		}
		if sum != waits || all != waits {
			t.Fatal("items are lost")
		}
	}
}
