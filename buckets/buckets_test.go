package buckets

import (
	"math"
	"math/big"
	"math/rand"
	"slices"
	"testing"

	"countersign/api"
)

func sample() Bucket { return Bucket{3, 10, 4, 5} }

func TestP34_1NewCheck(t *testing.T) {
	if b, e := New(0, 1, 1<<62); e != api.OK || b != (Bucket{0, 1, 1, 1 << 62}) {
		t.Error(b, e)
	}
	for i, x := range []Bucket{{-1, 1, 1, 0}, {1<<31 + 1, 1, 1, 0}, {0, 0, 0, 0}, {0, 1<<31 + 1, 0, 0}, {0, 1, 2, 0}, {0, 1, -1, 0}, {0, 1, 1, -1}, {0, 1, 1, 1<<62 + 1}, {}} {
		if Check(x) != api.ErrRange {
			t.Error(i)
		}
		n, e1 := At(x, 5)
		_, _, e2 := Take(x, 5, 1)
		m, e3 := After(x, 5, 1)
		if n != 0 || m != 0 {
			t.Error(i, n, m)
		}
		_, _, e4 := Play(x, make([]Step, 5000))
		if e1 != api.ErrRange || e2 != api.ErrRange || e3 != api.ErrRange || e4 != api.ErrRange {
			t.Error(i, e1, e2, e3, e4)
		}
	}
	for i, x := range []Bucket{{1 << 31, 1 << 31, 0, 1 << 62}, {0, 1, 0, 0}} {
		if Check(x) != api.OK {
			t.Error(i)
		}
	}
	for i, x := range [][3]int64{{-1, 1, 0}, {0, 0, 0}, {0, 1, -1}} {
		if b, e := New(x[0], x[1], x[2]); e != api.ErrRange || b != (Bucket{}) {
			t.Error(i, e)
		}
	}
}

func TestP34_2At(t *testing.T) {
	for at, want := range map[int64]int64{5: 4, 6: 7, 7: 10, 100: 10, 1 << 62: 10} {
		if n, e := At(sample(), at); n != want || e != api.OK {
			t.Error(at, n, e)
		}
	}
	for _, at := range []int64{4, -1, 1<<62 + 1} {
		if n, e := At(sample(), at); n != 0 || e != api.ErrRange {
			t.Error(at, e)
		}
	}
	if n, _ := At(Bucket{1 << 31, 1 << 31, 0, 0}, 1<<62); n != 1<<31 {
		t.Error(n)
	}
	if n, _ := At(Bucket{1 << 31, 1 << 31, 5, 0}, 1<<33); n != 1<<31 {
		t.Error("a product of 2^64", n)
	}
}

func TestP34_3TakeAfter(t *testing.T) {
	if b, taken, e := Take(sample(), 6, 7); !taken || e != api.OK || b != (Bucket{3, 10, 0, 6}) {
		t.Error(b, taken, e)
	}
	if b, taken, e := Take(sample(), 6, 8); taken || e != api.OK || b != sample() {
		t.Error(b, taken, e)
	}
	if b, taken, _ := Take(sample(), 100, 0); !taken || b != (Bucket{3, 10, 10, 100}) {
		t.Error(b)
	}
	for i, x := range []struct{ n, at, want int64 }{{10, 5, 2}, {9, 6, 1}, {11, 5, -1}, {0, 5, 0}, {4, 5, 0}, {5, 5, 1}, {7, 5, 1}, {8, 5, 2}, {math.MaxInt64, 1 << 62, -1}, {10, 1 << 62, 0}} {
		if n, e := After(sample(), x.at, x.n); n != x.want || e != api.OK {
			t.Error(i, n, e)
		}
	}
	if n, _ := After(Bucket{0, 10, 4, 5}, 9, 5); n != -1 {
		t.Error("no rate", n)
	}
	for _, x := range [][2]int64{{4, 1}, {1<<62 + 1, 1}, {5, -1}} {
		_, _, e1 := Take(sample(), x[0], x[1])
		n, e2 := After(sample(), x[0], x[1])
		if e1 != api.ErrRange || e2 != api.ErrRange || n != 0 {
			t.Error(x)
		}
	}
}

func TestP34_4Most(t *testing.T) {
	for i, x := range []struct {
		rate, burst, ticks, want int64
		e                        api.Errno
	}{{3, 10, 4, 22, 0}, {1 << 31, 1, 1 << 62, math.MaxInt64, 0}, {1, 1 << 31, 1 << 62, 1<<62 + 1<<31, 0}, {2, 1, 1<<62 - 1, math.MaxInt64, 0}, {2, 1, 1 << 62, math.MaxInt64, 0}, {0, 1, 0, 1, 0}, {-1, 1, 0, 0, api.ErrRange}, {0, 0, 0, 0, api.ErrRange}, {0, 1, -1, 0, api.ErrRange}, {0, 1, 1<<62 + 1, 0, api.ErrRange}, {4, 1, 1 << 62, math.MaxInt64, 0}} {
		if n, e := Most(x.rate, x.burst, x.ticks); n != x.want || e != x.e {
			t.Error(i, n, e)
		}
	}
}

func TestP34_5Play(t *testing.T) {
	b, taken, e := Play(sample(), []Step{{1, 4}, {1, 4}, {0, 1}})
	if e != api.OK || b.Tokens != 1 || b.Last != 7 || !slices.Equal(taken, []bool{true, true, true}) || cap(taken) != 3 {
		t.Error(b, taken, e)
	}
	b, taken, _ = Play(sample(), []Step{{0, 5}, {1, 5}})
	if !slices.Equal(taken, []bool{false, true}) || b != (Bucket{3, 10, 2, 6}) {
		t.Error(b, taken)
	}
	if b, taken, e := Play(sample(), nil); b != sample() || len(taken) != 0 || e != api.OK {
		t.Error(b, e)
	}
	for i, x := range []struct {
		l []Step
		e api.Errno
	}{{make([]Step, 4097), api.ErrLimit}, {make([]Step, 4096), 0}, {[]Step{{-1, 0}}, api.ErrRange}, {[]Step{{0, -1}}, api.ErrRange}, {[]Step{{1 << 62, 0}}, api.ErrRange}, {[]Step{{1<<62 - 5, 0}}, 0}, {[]Step{{math.MaxInt64, 0}}, api.ErrRange}, {[]Step{{1<<62 - 5, 0}, {1, 0}}, api.ErrRange}} {
		if b, taken, e := Play(sample(), x.l); e != x.e || e != api.OK && (b != (Bucket{}) || len(taken) != 0) {
			t.Error(i, e)
		}
	}
}

func TestP34_6Consequences(t *testing.T) {
	r := rand.New(rand.NewSource(1))
	for range 500 {
		b, _ := New(r.Int63n(5), r.Int63n(20)+1, r.Int63n(9))
		first := b
		var l []Step
		for range 12 {
			l = append(l, Step{r.Int63n(4), r.Int63n(8)})
		}
		_, taken, _ := Play(b, l)
		for from := range l {
			sum, ticks := int64(0), int64(0)
			for i := from; i < len(l); i++ {
				if i > from {
					ticks += l[i].Wait
				}
				if taken[i] {
					sum += l[i].N
				}
				if most, _ := Most(first.Rate, first.Burst, ticks); sum > most {
					t.Fatal("too much was taken")
				}
			}
		}
		at, n := b.Last+r.Int63n(9), r.Int63n(25)
		b, _, _ = Take(b, at, r.Int63n(20))
		wait, _ := After(b, at, n)
		for k := int64(0); k < wait; k++ {
			if _, taken, _ := Take(b, at+k, n); taken {
				t.Fatal("a lesser wait is enough")
			}
		}
		if wait >= 0 {
			if _, taken, _ := Take(b, at+wait, n); !taken {
				t.Fatal("the wait is not enough")
			}
		}
		a, _ := At(b, at+7)
		mid, _, _ := Take(b, at+3, 0)
		if c, _ := At(mid, at+7); a != c {
			t.Fatal("several steps of time")
		}
	}
	for range 500 {
		x := Bucket{r.Int63n(1<<31 + 1), r.Int63n(1<<31) + 1, 0, r.Int63n(1 << 61)}
		at := x.Last + r.Int63n(1<<uint(r.Intn(61)+1))
		want := new(big.Int).Mul(big.NewInt(x.Rate), big.NewInt(at-x.Last))
		if want.Cmp(big.NewInt(x.Burst)) > 0 {
			want = big.NewInt(x.Burst)
		}
		if n, _ := At(x, at); n != want.Int64() {
			t.Fatal("exact numbers")
		}
	}
}
