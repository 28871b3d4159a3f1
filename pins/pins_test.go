package pins

import (
	"math"
	"math/rand"
	"slices"
	"testing"

	"countersign/api"
)

// of returns pins of some revisions.
func of(t *testing.T, revs ...uint64) Pins {
	t.Helper()
	var p Pins
	for _, rev := range revs {
		var e api.Errno
		if p, e = p.Pin(rev); e != api.OK {
			t.Fatal(rev, e)
		}
	}
	return p
}

func TestP9_1PinUnpinMore(t *testing.T) {
	p := of(t, 3, 1, 3)
	if q, e := p.Unpin(1); e != api.OK || !slices.Equal(q.Held(), []uint64{3}) || p.Count(1) != 1 {
		t.Error(e)
	}
	if q, e := p.Unpin(3); e != api.OK || q.Count(3) != 1 || p.Count(3) != 2 {
		t.Error(e)
	}
	for _, rev := range []uint64{0, 2, 9} {
		if q, e := p.Unpin(rev); e != api.ErrNone || !Same(q, Pins{}) {
			t.Error(rev, e)
		}
	}
	if q, e := p.Pin(0); e != api.ErrRevision || !Same(q, Pins{}) {
		t.Error(e)
	}
	full, e := p.More(7, 4096)
	if e != api.OK || full.Count(7) != 4096 {
		t.Error(e)
	}
	if _, e := full.Pin(7); e != api.ErrLimit {
		t.Error(e)
	}
	for i, x := range []struct {
		rev uint64
		n   int
		e   api.Errno
	}{{0, -1, api.ErrRange}, {0, 0, api.ErrRevision}, {5, 0, api.OK}, {7, 0, api.OK}, {7, 1, api.ErrLimit}, {5, 4097, api.ErrLimit}, {7, math.MaxInt, api.ErrLimit}, {3, 4094, api.OK}, {3, 4095, api.ErrLimit}} {
		if _, e := full.More(x.rev, x.n); e != x.e {
			t.Error(i, e)
		}
	}
	var many Pins
	for i := range 1024 {
		many, _ = many.Pin(uint64(i + 1))
	}
	if _, e := many.Pin(1025); e != api.ErrLimit {
		t.Error(e)
	}
	if _, e := many.Pin(1024); e != api.OK {
		t.Error(e)
	}
	if q, e := many.More(1025, 0); e != api.OK || !Same(q, many) {
		t.Error(e)
	}
}

func TestP9_2CountHeldTotalLeast(t *testing.T) {
	p := of(t, 3, 1, 3, math.MaxUint64)
	if p.Count(3) != 2 || p.Count(2) != 0 || p.Count(0) != 0 || !slices.Equal(p.Held(), []uint64{1, 3, math.MaxUint64}) || p.Total() != 4 || p.Least() != 1 {
		t.Error(p)
	}
	held := p.Held()
	held[0] = 9
	if p.Least() != 1 || cap(held) != 3 {
		t.Error("shared")
	}
	if (Pins{}).Least() != 0 || (Pins{}).Total() != 0 || len(Pins{}.Held()) != 0 {
		t.Error("the zero pins")
	}
}

func TestP9_3Goes(t *testing.T) {
	p := of(t, 3, 1, 3)
	for i, x := range []struct {
		revs []uint64
		keep int
		want []uint64
	}{{[]uint64{1, 2, 3, 4, 5}, 1, []uint64{2, 4}}, {[]uint64{4, 2}, 5, nil}, {[]uint64{4, 2, 2}, -1, []uint64{4, 2, 2}}, {[]uint64{5, 4, 1}, 0, []uint64{5, 4}}, {nil, 0, nil}, {[]uint64{4, 2}, math.MinInt, []uint64{4, 2}}, {[]uint64{4, 2}, math.MaxInt, nil}} {
		if got := p.Goes(x.revs, x.keep); !slices.Equal(got, x.want) || cap(got) != len(got) {
			t.Error(i, got)
		}
	}
}

func TestP9_4Same(t *testing.T) {
	if !Same(of(t, 1, 3, 3), of(t, 3, 1, 3)) || Same(of(t, 1), of(t, 1, 1)) || Same(of(t, 1), of(t, 2)) || !Same(Pins{}, Pins{}) || Same(Pins{}, of(t, 1)) {
		t.Error("Same")
	}
	p, _ := of(t, 1).Unpin(1)
	if !Same(p, Pins{}) {
		t.Error("nothing is held")
	}
}

// counts returns how often the first revisions are pinned.
func counts(p Pins) (out []int) {
	for rev := range uint64(12) {
		out = append(out, p.Count(rev))
	}
	return out
}

func TestP9_5Consequences(t *testing.T) {
	r := rand.New(rand.NewSource(1))
	var p Pins
	for range 500 {
		old, rev, n := counts(p), uint64(r.Intn(9)+1), r.Intn(4)
		q, _ := p.Pin(rev)
		if back, _ := q.Unpin(rev); !Same(back, p) {
			t.Fatal("Unpin")
		}
		more, _ := p.More(rev, n)
		again := p
		for range n {
			again, _ = again.Pin(rev)
		}
		sum := 0
		for _, rev := range again.Held() {
			sum += again.Count(rev)
		}
		if !Same(more, again) || sum != more.Total() {
			t.Fatal("More")
		}
		if !slices.Equal(counts(p), old) {
			t.Fatal("changed")
		}
		p = more
	}
}
