package gates

import (
	"math/rand"
	"testing"

	"countersign/api"
	"countersign/buckets"
)

func gate(t *testing.T) Gate {
	t.Helper()
	g, e := Of(api.Client{Rate: 2, Burst: 4}, 3, 0)
	if e != api.OK {
		t.Fatal(e)
	}
	return g
}

// ask asks something that is no error.
func ask(t *testing.T, g Gate, at, n int64, k int) (Gate, Verdict) {
	t.Helper()
	g, v, e := Ask(g, at, n, k)
	if e != api.OK {
		t.Fatal(e)
	}
	return g, v
}

func TestP37_1OfCheck(t *testing.T) {
	if g := gate(t); g != (Gate{Bucket: buckets.Bucket{Rate: 2, Burst: 4, Tokens: 4}, Cap: 3}) || Check(g) != api.OK {
		t.Error(g)
	}
	if g, e := Of(api.Client{Rate: 2, Burst: 4}, 64, 3); e != api.OK || g.Bucket != (buckets.Bucket{Rate: 2, Burst: 1 << 31, Tokens: 4}) || g.Early {
		t.Error(g, e)
	}
	if g, e := Of(api.Client{Rate: 2, Burst: 4, Weight: 99}, 1, 5); e != api.OK || !g.Early || g.Bucket.Burst != 4 {
		t.Error(g, e)
	}
	if g, e := Of(api.Client{Rate: 2, Burst: 4}, 64, 6); e != api.OK || g.Early || g.Bucket.Burst != 4 || g.Cap != 64 || Check(g) != api.OK {
		t.Error(g, e)
	}
	if g, e := Of(api.Client{Rate: 2, Burst: 4}, 1, 0); e != api.OK || Check(g) != api.OK {
		t.Error(g, e)
	}
	for i, x := range []struct {
		c    api.Client
		most int
		flaw uint8
	}{{api.Client{Rate: -1, Burst: 4}, 3, 0}, {api.Client{Burst: 0}, 3, 0}, {api.Client{Burst: 1}, 0, 0}, {api.Client{Burst: 1}, 65, 0}, {api.Client{Burst: 1}, 1, 7}, {api.Client{Burst: 1<<31 + 1}, 3, 3}} {
		if g, e := Of(x.c, x.most, x.flaw); e != api.ErrRange || g != (Gate{}) {
			t.Error(i, e)
		}
	}
	for i, change := range []func(g *Gate){func(g *Gate) { g.Bucket.Tokens = 5 }, func(g *Gate) { g.Cap = 0 }, func(g *Gate) { g.Cap = 65 }, func(g *Gate) { g.Waiting = 4 }, func(g *Gate) { g.Waiting = -1 }} {
		g := gate(t)
		change(&g)
		_, _, e1 := Ask(g, 0, 1, 1)
		_, e2 := Release(g, 0)
		_, _, e3 := Retry(g, 0, 1, 1)
		if Check(g) != api.ErrRange || e1 != api.ErrRange || e2 != api.ErrRange || e3 != api.ErrRange {
			t.Error(i, e1, e2, e3)
		}
	}
}

func TestP37_2Ask(t *testing.T) {
	g, v := ask(t, gate(t), 0, 3, 3)
	if v != (Verdict{true, 0}) || g.Waiting != 3 || g.Bucket.Tokens != 1 {
		t.Error(g, v)
	}
	if h, v := ask(t, g, 0, 1, 1); v != (Verdict{false, 0}) || h != g {
		t.Error(h, v)
	}
	g, _ = Release(g, 2)
	if h, v := ask(t, g, 0, 2, 2); v != (Verdict{false, 1}) || h != g {
		t.Error(v)
	}
	if h, v := ask(t, g, 1, 2, 2); !v.Admitted || h.Waiting != 3 || h.Bucket.Last != 1 {
		t.Error(v)
	}
	if _, v := ask(t, gate(t), 0, 5, 1); v != (Verdict{false, -1}) {
		t.Error(v)
	}
	if _, v := ask(t, gate(t), 0, 0, 4); v != (Verdict{false, 0}) {
		t.Error(v)
	}
	early := g
	early.Early = true
	if _, v := ask(t, early, 0, 4, 2); v != (Verdict{false, 1}) {
		t.Error(v)
	}
	if _, v := ask(t, early, 0, 2, 2); v != (Verdict{false, 0}) {
		t.Error(v)
	}
	if _, v := ask(t, gate(t), 0, 1, 64); v != (Verdict{false, 0}) {
		t.Error(v)
	}
	if _, v := ask(t, early, 0, 5, 2); v != (Verdict{false, -1}) {
		t.Error(v)
	}
	if _, v := ask(t, early, 0, 0, 3); v != (Verdict{false, 0}) {
		t.Error(v)
	}
	late := gate(t)
	late.Bucket.Last = 5
	for i, x := range []struct {
		g     Gate
		at, n int64
		k     int
	}{{gate(t), -1, 1, 1}, {late, 4, 1, 1}, {gate(t), 1<<62 + 1, 1, 1}, {gate(t), 0, -1, 1}, {gate(t), 0, 1, -1}, {gate(t), 0, 1, 65}} {
		if g, v, e := Ask(x.g, x.at, x.n, x.k); e != api.ErrRange || g != (Gate{}) || v != (Verdict{}) {
			t.Error(i, e)
		}
	}
}

func TestP37_3Release(t *testing.T) {
	g, _ := ask(t, gate(t), 0, 1, 3)
	if h, e := Release(g, 3); e != api.OK || h.Waiting != 0 || h.Bucket != g.Bucket {
		t.Error(h, e)
	}
	for _, k := range []int{-1, 4} {
		if h, e := Release(g, k); e != api.ErrRange || h != (Gate{}) {
			t.Error(k, e)
		}
	}
	if _, e := Release(gate(t), 1); e != api.ErrRange {
		t.Error(e)
	}
}

func TestP37_4Retry(t *testing.T) {
	g, _ := ask(t, gate(t), 0, 3, 3)
	h, v, e := Retry(g, 0, 4, 1)
	if e != api.OK || !v.Admitted || h.Waiting != 1 || h.Bucket != (buckets.Bucket{Rate: 2, Burst: 4, Last: 2}) {
		t.Error(h, v, e)
	}
	if h, v, e := Retry(gate(t), 0, 5, 1); e != api.OK || v != (Verdict{false, -1}) || h != gate(t) {
		t.Error(v, e)
	}
	if _, v, e := Retry(gate(t), 0, 1, 4); e != api.OK || v != (Verdict{false, 0}) {
		t.Error(v, e)
	}
	if _, v, _ := Retry(gate(t), 0, 2, 2); !v.Admitted {
		t.Error(v)
	}
	if h, v, e := Retry(g, 0, 1, 1); e != api.OK || !v.Admitted || h.Waiting != 1 || h.Bucket.Last != 0 {
		t.Error("no room alone", h, v, e)
	}
	g.Bucket.Last = 1 << 62
	if _, _, e := Retry(g, 1<<62, 4, 1); e != api.ErrRange {
		t.Error(e)
	}
	if _, _, e := Retry(g, 0, 4, 1); e != api.ErrRange {
		t.Error(e)
	}
}

func TestP37_5Consequences(t *testing.T) {
	r := rand.New(rand.NewSource(1))
	refused := false
	for range 400 {
		c := api.Client{Rate: r.Int63n(3), Burst: r.Int63n(6) + 1}
		g, _ := Of(c, 4, 0)
		early, _ := Of(c, 4, 5)
		now, taken := int64(0), int64(0)
		for range 15 {
			now += r.Int63n(4)
			n, k := r.Int63n(5), r.Intn(3)
			next, v := ask(t, g, now, n, k)
			if next.Waiting > next.Cap {
				t.Fatal("Waiting")
			}
			if v.Admitted {
				taken += n
			} else if v.After > 0 {
				free := g
				free.Waiting = 0
				if _, v := ask(t, free, now+v.After, n, k); !v.Admitted {
					t.Fatal("the wait is not enough")
				}
				if _, v := ask(t, free, now+v.After-1, n, k); v.Admitted {
					t.Fatal("a lesser wait is enough")
				}
			} else if v.After < 0 != (n > c.Burst || c.Rate == 0 && n > g.Bucket.Tokens) {
				t.Fatal("no time is enough")
			}
			g, _ = Release(next, r.Intn(next.Waiting+1))
			if x, v, _ := Retry(early, now, n, 1); !v.Admitted && v.After >= 0 {
				refused = true
			} else if v.Admitted && x.Bucket.Last == now {
				early, _ = Release(x, x.Waiting)
			}
		}
		if most, _ := buckets.Most(c.Rate, c.Burst, now); taken > most {
			t.Fatal("too much")
		}
	}
	if !refused {
		t.Error("the flaw 5")
	}
	wide, _ := Of(api.Client{Rate: 2, Burst: 4}, 4, 3)
	if _, v := ask(t, wide, 10, 24, 0); !v.Admitted {
		t.Error("the flaw 3")
	}
}
