package turns

import (
	"math/rand"
	"slices"
	"testing"

	"countersign/api"
)

func sample(t *testing.T) Turns {
	t.Helper()
	x, e := New([]int{2, 1, 3})
	if e != api.OK {
		t.Fatal(e)
	}
	return x
}

// lists returns lists of clients that are able, written as digits.
func lists(n int, l ...string) (out [][]bool) {
	for _, s := range l {
		able := make([]bool, n)
		for _, x := range s {
			able[x-'0'] = true
		}
		out = append(out, able)
	}
	return out
}

func same(a, b Turns) bool {
	return slices.Equal(a.Weights, b.Weights) && a.Turn == b.Turn && a.Credit == b.Credit && a.Round == b.Round
}

func TestP36_1NewCheck(t *testing.T) {
	l := []int{2, 1, 3}
	x, e := New(l)
	if l[0] = 9; e != api.OK || !same(x, Turns{[]int{2, 1, 3}, 0, 2, 0}) || cap(x.Weights) != 3 {
		t.Error(x, e)
	}
	for i, c := range []struct {
		l []int
		e api.Errno
	}{{nil, api.ErrRange}, {[]int{9}, api.ErrRange}, {[]int{1, 0}, api.ErrRange}, {make([]int, 17), api.ErrLimit}, {make([]int, 16), api.ErrRange}, {slices.Repeat([]int{8}, 16), 0}} {
		if x, e := New(c.l); e != c.e || e != api.OK && len(x.Weights) != 0 || Check(Turns{Weights: c.l}) != c.e {
			t.Error(i, e)
		}
	}
	for i, c := range []struct {
		x Turns
		e api.Errno
	}{{Turns{[]int{2, 1}, 2, 0, 0}, api.ErrRange}, {Turns{[]int{2, 1}, -1, 0, 0}, api.ErrRange}, {Turns{[]int{2, 1}, 1, 2, 0}, api.ErrRange}, {Turns{[]int{2, 1}, 0, 2, 0}, 0}, {Turns{[]int{2, 1}, 0, -1, 0}, api.ErrRange}, {Turns{[]int{2, 1}, 0, 0, -1}, api.ErrRange}, {Turns{[]int{2, 1}, 0, 0, 1 << 62}, 0}, {Turns{[]int{2, 1}, 0, 0, 1<<62 + 1}, api.ErrRange}} {
		if e := Check(c.x); e != c.e {
			t.Error(i, e)
		}
	}
}

func TestP36_2Next(t *testing.T) {
	x := sample(t)
	y, client, found, e := Next(x, []bool{false, false, true})
	if e != api.OK || client != 2 || !found || !same(y, Turns{[]int{2, 1, 3}, 2, 2, 0}) || x.Turn != 0 {
		t.Error(y, client, found, e)
	}
	if y.Weights[0] = 9; x.Weights[0] != 2 {
		t.Error("shared")
	}
	if y, client, found, e := Next(x, make([]bool, 3)); e != api.OK || client != 0 || found || !same(x, y) {
		t.Error(y, e)
	}
	if y, client, found, e := Next(x, make([]bool, 2)); e != api.ErrArg || client != 0 || found || len(y.Weights) != 0 {
		t.Error(e)
	}
	last := Turns{[]int{1, 1}, 1, 0, 1 << 62}
	if _, client, _, e := Next(last, []bool{true, true}); e != api.ErrRange || client != 0 {
		t.Error(e)
	}
	if y, _, found, e := Next(last, []bool{false, false}); e != api.OK || found || !same(y, last) {
		t.Error(e)
	}
	last.Turn = 0
	if _, client, found, e := Next(last, []bool{true, true}); e != api.OK || client != 1 || !found {
		t.Error(client, e)
	}
	if y, client, _, _ := Next(Turns{[]int{3}, 0, 0, 5}, []bool{true}); client != 0 || !same(y, Turns{[]int{3}, 0, 2, 6}) {
		t.Error(y)
	}
	if _, client, _, e := Next(Turns{}, nil); e != api.ErrRange || client != 0 {
		t.Error(e)
	}
}

func TestP36_3Takes(t *testing.T) {
	for i, c := range []struct {
		l    []string
		want []int
		x    Turns
	}{
		{[]string{"012", "012", "012", "012", "012", "012", "012", "012"}, []int{0, 0, 1, 2, 2, 2, 0, 0}, Turns{[]int{2, 1, 3}, 0, 0, 1}},
		{[]string{"1", "1", "1"}, []int{1, 1, 1}, Turns{[]int{2, 1, 3}, 1, 0, 2}},
		{[]string{"02", "012", "", "12"}, []int{0, 0, -1, 1}, Turns{[]int{2, 1, 3}, 1, 0, 0}},
		{nil, nil, Turns{[]int{2, 1, 3}, 0, 2, 0}},
	} {
		x, l, e := Takes(sample(t), lists(3, c.l...))
		if e != api.OK || !slices.Equal(l, c.want) || !same(x, c.x) || cap(l) != len(l) {
			t.Error(i, x, l, e)
		}
	}
	own := sample(t)
	none, _, _ := Takes(own, nil)
	if none.Weights[0] = 9; own.Weights[0] != 2 {
		t.Error("shared")
	}
	for i, c := range []struct {
		x Turns
		l [][]bool
		e api.Errno
	}{{Turns{}, make([][]bool, 5000), api.ErrRange}, {sample(t), make([][]bool, 4097), api.ErrLimit}, {sample(t), make([][]bool, 4096), api.ErrArg}, {sample(t), append(lists(3, "0"), nil), api.ErrArg}, {Turns{[]int{1}, 0, 0, 1 << 62}, lists(1, "0"), api.ErrRange}} {
		if x, l, e := Takes(c.x, c.l); e != c.e || len(l) != 0 || len(x.Weights) != 0 {
			t.Error(i, e)
		}
	}
}

func TestP36_4ServedGap(t *testing.T) {
	if l, e := Served([]int{0, 0, -1, 2, 0}, 3); e != api.OK || !slices.Equal(l, []int{3, 0, 1}) || cap(l) != 3 {
		t.Error(l, e)
	}
	for i, c := range []struct {
		l []int
		n int
		e api.Errno
	}{{nil, 0, api.ErrRange}, {nil, 17, api.ErrRange}, {nil, 16, 0}, {[]int{3}, 3, api.ErrRange}, {[]int{-2}, 3, api.ErrRange}, {make([]int, 4097), 0, api.ErrLimit}, {make([]int, 4096), 1, 0}} {
		if _, e := Served(c.l, c.n); e != c.e {
			t.Error(i, e)
		}
	}
	for i, c := range []struct {
		v, n, w, m, want int
		e                api.Errno
	}{{2, 5, 1, 2, 1, 0}, {1, 2, 2, 5, 1, 0}, {8, 0, 8, 4096, 32768, 0}, {1, 5, 1, 0, 5, 0}, {0, 1, 1, 1, 0, api.ErrRange}, {1, 1, 9, 1, 0, api.ErrRange}, {1, -1, 1, 1, 0, api.ErrRange}, {1, 1, 1, 4097, 0, api.ErrRange}} {
		if n, e := Gap(c.v, c.n, c.w, c.m); n != c.want || e != c.e {
			t.Error(i, n, e)
		}
	}
}

func TestP36_5Fair(t *testing.T) {
	if ok, e := Fair(sample(t), lists(3, "012", "012", "02", "12", "", "012")); !ok || e != api.OK {
		t.Error(ok, e)
	}
	for i, c := range []struct {
		x Turns
		l [][]bool
		e api.Errno
	}{{Turns{}, make([][]bool, 300), api.ErrRange}, {sample(t), make([][]bool, 257), api.ErrLimit}, {sample(t), make([][]bool, 256), api.ErrArg}} {
		if ok, e := Fair(c.x, c.l); ok || e != c.e {
			t.Error(i, e)
		}
	}
}

func TestP36_6Consequences(t *testing.T) {
	r := rand.New(rand.NewSource(1))
	for range 60 {
		n := r.Intn(4) + 1
		weights := make([]int, n)
		sum := 0
		for i := range weights {
			weights[i] = r.Intn(8) + 1
			sum += weights[i]
		}
		x, _ := New(weights)
		always := r.Intn(n)
		var l [][]bool
		for range 80 {
			able := make([]bool, n)
			for i := range able {
				able[i] = i == always || r.Intn(3) > 0
			}
			l = append(l, able)
		}
		if ok, e := Fair(x, l); !ok || e != api.OK {
			t.Fatal("not fair")
		}
		_, clients, _ := Takes(x, l)
		for i, c := range clients {
			if c < 0 || !l[i][c] {
				t.Fatal("not able")
			}
			if i >= sum && !slices.Contains(clients[i-sum:i], always) {
				t.Fatal("a client that is always able")
			}
			y, _, _, _ := Next(x, l[i])
			if y.Round > x.Round+1 {
				t.Fatal("more than one round")
			}
			x = y
		}
	}
}
