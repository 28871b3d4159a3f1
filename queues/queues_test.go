package queues

import (
	"math"
	"math/rand"
	"slices"
	"testing"

	"countersign/api"
)

func sample() Queue { return Queue{[]Entry{{3, 2, 0}, {5, 0, 4}, {8, 1, 4}}} }

func TestP35_1Check(t *testing.T) {
	long := Queue{}
	for i := range 65 {
		long.Entries = append(long.Entries, Entry{ID: i})
	}
	for i, x := range []struct {
		q Queue
		e api.Errno
	}{
		{Queue{}, 0}, {sample(), 0}, {long, api.ErrLimit}, {Queue{long.Entries[:64]}, 0}, {Queue{[]Entry{{-1, 0, 0}}}, api.ErrRange}, {Queue{[]Entry{{0, 8, 0}}}, api.ErrRange}, {Queue{[]Entry{{0, -1, 0}}}, api.ErrRange}, {Queue{[]Entry{{0, 7, 1 << 62}}}, 0}, {Queue{[]Entry{{0, 7, 1<<62 + 1}}}, api.ErrRange}, {Queue{[]Entry{{0, 7, -1}}}, api.ErrRange},
		{Queue{[]Entry{{1, 0, 0}, {1, 0, 0}}}, api.ErrOrder}, {Queue{[]Entry{{1, 0, 5}, {2, 0, 4}}}, api.ErrOrder}, {Queue{[]Entry{{1, 0, 5}, {0, 9, 4}}}, api.ErrRange}, {Queue{[]Entry{{1, 0, 5}, {0, 0, 5}, {9, 9, 9}}}, api.ErrOrder},
	} {
		if e := Check(x.q); e != x.e {
			t.Error(i, e)
		}
		_, e1 := Drop(x.q, -9)
		_, e2 := Lower(x.q, -9, 99)
		_, e3 := Order(x.q, -1, 0)
		_, _, e4 := Pick(x.q, -1, 0, nil)
		if x.e != api.OK && (e1 != x.e || e2 != x.e || e3 != x.e || e4 != x.e) {
			t.Error(i, e1, e2, e3, e4)
		}
	}
}

func TestP35_2AddDropLower(t *testing.T) {
	q := sample()
	a, e := Add(q, Entry{9, 7, 4})
	if e != api.OK || len(a.Entries) != 4 || cap(a.Entries) != 4 || len(q.Entries) != 3 {
		t.Error(a, e)
	}
	for i, x := range []struct {
		x Entry
		e api.Errno
	}{{Entry{8, 0, 4}, api.ErrOrder}, {Entry{9, 0, 3}, api.ErrOrder}, {Entry{9, 8, 4}, api.ErrRange}} {
		if a, e := Add(q, x.x); e != x.e || len(a.Entries) != 0 {
			t.Error(i, e)
		}
	}
	full := Queue{}
	for i := range 64 {
		full, _ = Add(full, Entry{ID: i})
	}
	if _, e := Add(full, Entry{ID: 64}); e != api.ErrLimit {
		t.Error(e)
	}
	d, e := Drop(q, 5)
	if e != api.OK || !slices.Equal(d.Entries, []Entry{{3, 2, 0}, {8, 1, 4}}) || cap(d.Entries) != 2 || !slices.Equal(q.Entries, sample().Entries) {
		t.Error(d, e)
	}
	l, e := Lower(q, 3, 1)
	if e != api.OK || l.Entries[0].Class != 1 || q.Entries[0].Class != 2 {
		t.Error(l, e)
	}
	if l, _ := Lower(q, 3, 7); l.Entries[0].Class != 2 {
		t.Error(l)
	}
	_, e1 := Drop(q, 4)
	_, e2 := Lower(q, 4, 0)
	_, e3 := Lower(q, 4, 8)
	_, e4 := Lower(q, 3, -1)
	if e1 != api.ErrNone || e2 != api.ErrNone || e3 != api.ErrRange || e4 != api.ErrRange {
		t.Error(e1, e2, e3, e4)
	}
}

func TestP35_3EffectiveRipe(t *testing.T) {
	for i, x := range []struct {
		x     Entry
		round int64
		age   int
		want  int
		e     api.Errno
	}{
		{Entry{3, 2, 0}, 3, 4, 2, 0}, {Entry{3, 2, 0}, 4, 4, 1, 0}, {Entry{8, 1, 4}, 4, 4, 1, 0}, {Entry{3, 2, 0}, 1 << 62, 1, 0, 0}, {Entry{3, 2, 5}, 4, 4, 0, api.ErrRange}, {Entry{3, 2, 0}, 1<<62 + 1, 4, 0, api.ErrRange}, {Entry{3, 2, 0}, 4, 0, 0, api.ErrRange}, {Entry{3, 2, 0}, 4, 65, 0, api.ErrRange}, {Entry{-3, 2, 0}, 4, 4, 0, api.ErrRange}, {Entry{3, 7, 0}, 447, 64, 1, 0}, {Entry{3, 7, 0}, 448, 64, 0, 0},
	} {
		if n, e := Effective(x.x, x.round, x.age); n != x.want || e != x.e {
			t.Error(i, n, e)
		}
	}
	if n, e := Ripe(Entry{3, 2, 0}, 4); n != 8 || e != api.OK {
		t.Error(n, e)
	}
	if n, e := Ripe(Entry{3, 7, 1 << 62}, 64); n != 1<<62+448 || e != api.OK {
		t.Error(n, e)
	}
	n, e1 := Ripe(Entry{3, 8, 0}, 4)
	if n != 0 {
		t.Error(n)
	}
	_, e2 := Ripe(Entry{3, 2, 0}, 0)
	_, e3 := Ripe(Entry{3, 2, 0}, 65)
	if e1 != api.ErrRange || e2 != api.ErrRange || e3 != api.ErrRange {
		t.Error(e1, e2, e3)
	}
}

func TestP35_4OrderPick(t *testing.T) {
	q := sample()
	lower, _ := Lower(q, 8, 0)
	for i, x := range []struct {
		q     Queue
		round int64
		age   int
		want  []int
		e     api.Errno
	}{
		{q, 4, 4, []int{5, 3, 8}, 0}, {q, 4, 2, []int{3, 5, 8}, 0}, {q, 8, 4, []int{3, 5, 8}, 0}, {lower, 4, 4, []int{5, 8, 3}, 0}, {q, 3, 4, nil, api.ErrRange}, {q, 4, 0, nil, api.ErrRange}, {q, 4, 65, nil, api.ErrRange}, {q, 1<<62 + 1, 4, nil, api.ErrRange}, {Queue{}, -1, 4, nil, api.ErrRange}, {Queue{}, 0, 4, nil, 0}, {Queue{}, math.MaxInt64, 4, nil, api.ErrRange},
	} {
		l, e := Order(x.q, x.round, x.age)
		if e != x.e || !slices.Equal(l, x.want) || cap(l) != len(l) {
			t.Error(i, l, e)
		}
		if id, _, e := Pick(x.q, x.round, x.age, x.want); e != x.e || e != api.OK && id != 0 {
			t.Error(i, e)
		}
	}
	if id, found, e := Pick(q, 4, 4, []int{8, 3}); id != 3 || !found || e != api.OK {
		t.Error(id, found, e)
	}
	if id, found, e := Pick(q, 4, 4, []int{4, -1}); id != 0 || found || e != api.OK {
		t.Error(id, found, e)
	}
}

func TestP35_5Consequences(t *testing.T) {
	r := rand.New(rand.NewSource(1))
	for range 500 {
		var q Queue
		since := int64(0)
		for i := range r.Intn(8) + 1 {
			since += int64(r.Intn(4))
			q, _ = Add(q, Entry{2 * i, r.Intn(8), since})
		}
		age := r.Intn(5) + 1
		round := since + int64(r.Intn(30))
		l, _ := Order(q, round, age)
		sorted := slices.Sorted(slices.Values(l))
		for i, x := range q.Entries {
			if sorted[i] != x.ID {
				t.Fatal("each ID once")
			}
			now, _ := Effective(x, round, age)
			later, _ := Effective(x, round+1, age)
			ripe, _ := Ripe(x, age)
			if now > x.Class || later > now || (now == 0) != (round >= ripe) {
				t.Fatal("effective classes")
			}
			for _, y := range q.Entries[i+1:] {
				if round >= ripe && slices.Index(l, y.ID) < slices.Index(l, x.ID) {
					t.Fatal("a later one comes first")
				}
			}
			low, _ := Lower(q, x.ID, r.Intn(8))
			if m, _ := Order(low, round, age); slices.Index(m, x.ID) > slices.Index(l, x.ID) {
				t.Fatal("an entry that is lowered")
			}
			less, _ := Drop(q, x.ID)
			if id, found, _ := Pick(less, round, age, l); found && id == x.ID {
				t.Fatal("what is dropped")
			}
		}
		if id, found, _ := Pick(q, round, age, l); !found || id != l[0] {
			t.Fatal("Pick among all")
		}
	}
}
