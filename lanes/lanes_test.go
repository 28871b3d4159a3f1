package lanes

import (
	"math/rand"
	"slices"
	"testing"

	"countersign/api"
)

func sample() Lanes {
	return Lanes{[2]Lane{{Held: true, ID: 5, Version: 2, At: 7}, {}}, 9}
}

func TestP40_1Check(t *testing.T) {
	if Check(Lanes{}) != api.OK || Check(sample()) != api.OK {
		t.Error("valid lanes")
	}
	for i, change := range []func(l *Lanes){
		func(l *Lanes) { l.Works = -1 }, func(l *Lanes) { l.Works = 1<<62 + 1 }, func(l *Lanes) { l.Works = 6 }, func(l *Lanes) { l.Lane[1].ID = 1 }, func(l *Lanes) { l.Lane[1].Version = 1 }, func(l *Lanes) { l.Lane[1].At = 1 }, func(l *Lanes) { l.Lane[0].ID = -1 }, func(l *Lanes) { l.Lane[0].Version = -1 }, func(l *Lanes) { l.Lane[0].At = -1 },
	} {
		l := sample()
		change(&l)
		_, e1 := Stall(l, 5)
		_, e2 := Resume(l, 5)
		_, _, e3 := Begin(l, 5)
		_, e4 := Eligible(l, 5, make([]Flight, 5000), 99)
		_, e5 := Take(l, 5, Flight{}, 99)
		_, _, e6 := Drop(l, 5)
		_, e7 := Due(l, 5, Flight{}, 99)
		for j, e := range []api.Errno{Check(l), e1, e2, e3, e4, e5, e6, e7} {
			if e != api.ErrRange {
				t.Error(i, j, e)
			}
		}
	}
	for _, x := range []int{-1, 2} {
		l := sample()
		_, e1 := Stall(l, x)
		_, e2 := Resume(l, x)
		_, _, e3 := Begin(l, x)
		_, e4 := Eligible(l, x, make([]Flight, 5000), 1)
		_, e5 := Take(l, x, Flight{}, 1)
		_, _, e6 := Drop(l, x)
		_, e7 := Due(l, x, Flight{}, 1)
		_, e8 := Take(l, 0, Flight{}, 65)
		_, e9 := Eligible(l, 1, nil, -1)
		_, e10 := Due(l, 1, Flight{}, 65)
		for j, e := range []api.Errno{e1, e2, e3, e4, e5, e6, e7, e8, e9, e10} {
			if e != api.ErrRange {
				t.Error(x, j, e)
			}
		}
	}
}

func TestP40_2StallResume(t *testing.T) {
	l := sample()
	s, e := Stall(l, 0)
	if e != api.OK || !s.Lane[0].Stalled || s.Lane[0].ID != 5 || l.Lane[0].Stalled {
		t.Error(s, e)
	}
	if r, e := Resume(s, 0); e != api.OK || r != l {
		t.Error(r, e)
	}
	x, e1 := Stall(s, 0)
	y, e2 := Resume(l, 1)
	if e1 != api.ErrState || e2 != api.ErrState || x != (Lanes{}) || y != (Lanes{}) {
		t.Error(e1, e2)
	}
}

func TestP40_3Begin(t *testing.T) {
	l := sample()
	s, _ := Stall(l, 1)
	for i, c := range []struct {
		l     Lanes
		x     int
		what  uint8
		works int64
	}{{l, 0, Finishes, 10}, {l, 1, Takes, 10}, {s, 1, Idle, 9}} {
		if out, what, e := Begin(c.l, c.x); what != c.what || out.Works != c.works || e != api.OK || out.Lane != c.l.Lane {
			t.Error(i, out, what, e)
		}
	}
	l.Works, s.Works = 1<<62, 1<<62
	if out, what, e := Begin(l, 1); e != api.ErrRange || what != 0 || out != (Lanes{}) {
		t.Error(e)
	}
	if _, what, e := Begin(s, 1); e != api.OK || what != Idle {
		t.Error(e)
	}
	if Idle != 0 || Takes != 1 || Finishes != 2 {
		t.Error("constants")
	}
}

func TestP40_4EligibleTake(t *testing.T) {
	l := sample()
	all := []Flight{{5, 2}, {5, 3}, {6, 0}}
	for hedge, want := range map[int][]int{3: {5, 6}, 2: {5, 5, 6}, 0: {5, 5, 6}, 64: {5, 6}} {
		if ids, e := Eligible(l, 1, all, hedge); e != api.OK || !slices.Equal(ids, want) || cap(ids) != len(ids) {
			t.Error(hedge, ids, e)
		}
	}
	s, _ := Stall(l, 1)
	if ids, e := Eligible(s, 1, all, 0); len(ids) != 0 || e != api.OK {
		t.Error(ids, e)
	}
	if ids, e := Eligible(l, 0, all, 0); len(ids) != 0 || e != api.OK {
		t.Error(ids, e)
	}
	if ids, e := Eligible(l, 1, make([]Flight, 4096), 0); len(ids) != 4096 || e != api.OK {
		t.Error(len(ids), e)
	}
	if _, e := Eligible(l, 1, make([]Flight, 4097), 0); e != api.ErrLimit {
		t.Error(e)
	}
	if ids, _ := Eligible(l, 1, []Flight{{-7, -1}}, 0); !slices.Equal(ids, []int{-7}) {
		t.Error("any list", ids)
	}
	out, e := Take(l, 1, Flight{5, 2}, 2)
	if e != api.OK || out.Lane[1] != (Lane{Held: true, ID: 5, Version: 2, At: 9}) || out.Lane[0] != l.Lane[0] || out.Works != 9 {
		t.Error(out, e)
	}
	for i, c := range []struct {
		l     Lanes
		x     int
		f     Flight
		hedge int
		e     api.Errno
	}{{l, 1, Flight{5, 2}, 3, api.ErrNone}, {l, 0, Flight{-1, 0}, 3, api.ErrState}, {s, 1, Flight{6, 0}, 3, api.ErrState}, {l, 1, Flight{-1, 0}, 3, api.ErrRange}, {l, 1, Flight{0, -1}, 3, api.ErrRange}, {l, 1, Flight{5, 3}, 64, 0}} {
		if out, e := Take(c.l, c.x, c.f, c.hedge); e != c.e || e != api.OK && out != (Lanes{}) {
			t.Error(i, e)
		}
	}
}

func TestP40_5DropStale(t *testing.T) {
	l := sample()
	out, f, e := Drop(l, 0)
	if e != api.OK || f != (Flight{5, 2}) || out != (Lanes{Works: 9}) {
		t.Error(out, f, e)
	}
	s, _ := Stall(l, 0)
	_, _, e1 := Drop(l, 1)
	_, f, e2 := Drop(s, 0)
	if e1 != api.ErrState || e2 != api.ErrState || f != (Flight{}) {
		t.Error(e1, e2)
	}
	if !Stale(Flight{5, 2}, []Flight{{5, 3}}) || Stale(Flight{5, 2}, []Flight{{4, 2}, {5, 2}}) || !Stale(Flight{5, 2}, nil) || !Stale(Flight{5, 2}, []Flight{{2, 5}}) {
		t.Error("Stale")
	}
}

func TestP40_6Due(t *testing.T) {
	l := sample()
	for i, c := range []struct {
		x     int
		f     Flight
		hedge int
		want  int64
		e     api.Errno
	}{{1, Flight{5, 2}, 3, 1, 0}, {1, Flight{6, 0}, 64, 0, 0}, {1, Flight{5, 2}, 2, 0, 0}, {1, Flight{5, 2}, 64, 62, 0}, {0, Flight{5, 2}, 64, 0, 0}, {1, Flight{5, 1}, 64, 0, 0}, {1, Flight{-1, 0}, 0, 0, api.ErrRange}, {1, Flight{0, -1}, 0, 0, api.ErrRange}} {
		if n, e := Due(l, c.x, c.f, c.hedge); n != c.want || e != c.e {
			t.Error(i, n, e)
		}
	}
	s, _ := Stall(l, 1)
	if n, e := Due(s, 1, Flight{5, 2}, 3); n != 1 || e != api.OK {
		t.Error("a lane that is stalled", n, e)
	}
}

func TestP40_7Consequences(t *testing.T) {
	r := rand.New(rand.NewSource(1))
	for range 300 {
		hedge := r.Intn(4)
		var l Lanes
		for range 30 {
			x := r.Intn(2)
			all := []Flight{{0, r.Intn(2)}, {1, r.Intn(2)}}
			next, what, _ := Begin(l, x)
			if l = next; what == Finishes {
				l, _, _ = Drop(l, x)
				continue
			}
			other := l.Lane[1-x]
			ids, _ := Eligible(l, x, all, hedge)
			for _, f := range all {
				due, _ := Due(l, x, f, hedge)
				held := other.Held && other.ID == f.ID && other.Version == f.Version
				out, e := Take(l, x, f, hedge)
				if (e == api.OK) != (due == 0) || (due == 0) != slices.Contains(ids, f.ID) || !held && due > 0 || hedge == 0 && due > 0 {
					t.Fatal(l, f, due, e)
				}
				if held && e == api.OK && out.Lane[x].At-other.At < int64(hedge) {
					t.Fatal("held by both")
				}
			}
			if out, e := Take(l, x, all[r.Intn(2)], hedge); e == api.OK {
				l = out
			}
		}
	}
	l := sample()
	l, _ = Take(l, 1, Flight{5, 2}, 0)
	_, f, _ := Drop(l, 0)
	_, g, _ := Drop(l, 1)
	if f != g || !Stale(g, []Flight{{5, 3}}) {
		t.Error("two quanta of the same version")
	}
}
