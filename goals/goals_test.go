package goals

import (
	"slices"
	"strconv"
	"testing"

	"countersign/api"
)

func goal(space, id, rel string) api.Goal {
	return api.Goal{Object: api.Object{Space: space, ID: id}, Rel: rel}
}

var (
	a = goal("doc", "x", "owner")
	b = goal("doc", "x", "viewer")
	c = goal("doc", "y", "owner")
)

func table(t *testing.T, l ...api.Goal) Table {
	t.Helper()
	x, e := Of(l)
	if e != api.OK {
		t.Fatal(e)
	}
	return x
}

func many(n int) []api.Goal {
	l := make([]api.Goal, n)
	for i := range l {
		l[i] = goal("doc", strconv.Itoa(i), "owner")
	}
	return l
}

func TestP23_1Of(t *testing.T) {
	if x := table(t, b, a); x.Len() != 2 || !slices.Equal(x.From(0), []api.Goal{b, a}) {
		t.Error(x.From(0))
	}
	long := many(MaxGoals + 1)
	for i, x := range []struct {
		l []api.Goal
		e api.Errno
	}{{nil, 0}, {[]api.Goal{a, b, a}, api.ErrTwice}, {[]api.Goal{a, goal("doc", "x", "")}, api.ErrName}, {[]api.Goal{a, a, {}}, api.ErrTwice}, {[]api.Goal{a, {}, a}, api.ErrName}, {make([]api.Goal, MaxGoals+1), api.ErrLimit}, {long, api.ErrLimit}} {
		if got, e := Of(x.l); e != x.e || got.Len() != 0 {
			t.Error(i, e)
		}
	}
	full := table(t, long[:MaxGoals]...)
	if out, at, fresh, e := full.With(long[MaxGoals]); e != api.ErrLimit || at != 0 || fresh || out.Len() != MaxGoals {
		t.Error(e)
	}
	if _, at, fresh, e := full.With(long[7]); e != api.OK || at != 7 || fresh {
		t.Error(at, fresh, e)
	}
}

func TestP23_2LenAtFind(t *testing.T) {
	x := table(t, b, a, c)
	for i, g := range []api.Goal{b, a, c} {
		if got, e := x.At(i); e != api.OK || got != g {
			t.Error(got, e)
		}
		if at, found := x.Find(g); at != i || !found {
			t.Error(at)
		}
	}
	for _, i := range []int{-1, 3} {
		if got, e := x.At(i); e != api.ErrRange || got != (api.Goal{}) {
			t.Error(e)
		}
	}
	if at, found := x.Find(goal("doc", "z", "owner")); at != 0 || found || (Table{}).Len() != 0 {
		t.Error("Find")
	}
	if _, e := (Table{}).At(0); e != api.ErrRange {
		t.Error(e)
	}
}

func TestP23_3With(t *testing.T) {
	x := table(t, a, b)
	y, at, fresh, e := x.With(c)
	if e != api.OK || at != 2 || !fresh || !slices.Equal(y.From(0), []api.Goal{a, b, c}) || x.Len() != 2 {
		t.Error(at, fresh, e)
	}
	if y, at, fresh, e := x.With(b); e != api.OK || at != 1 || fresh || y.Len() != 2 {
		t.Error(at, fresh, e)
	}
	if y, at, fresh, e := x.With(goal("doc", "X", "a")); e != api.ErrName || at != 0 || fresh || !GoesOn(y, x) || y.Len() != 2 {
		t.Error(at, fresh, e)
	}
}

func TestP23_4FromRelation(t *testing.T) {
	x := table(t, a, b, c)
	for i, want := range map[int][]api.Goal{-5: {a, b, c}, 0: {a, b, c}, 1: {b, c}, 3: nil, 9: nil} {
		if l := x.From(i); !slices.Equal(l, want) || cap(l) != len(l) {
			t.Error(i, l)
		}
	}
	if l := x.Relation("doc", "owner"); !slices.Equal(l, []int{0, 2}) || cap(l) != 2 || len(x.Relation("doc", "x")) != 0 || len(x.Relation("user", "owner")) != 0 {
		t.Error(l)
	}
}

func TestP23_5GoesOn(t *testing.T) {
	for i, x := range []struct {
		now, old []api.Goal
		want     bool
	}{{[]api.Goal{a, b, c}, []api.Goal{a, b}, true}, {[]api.Goal{a, b, c}, []api.Goal{a, c}, false}, {[]api.Goal{a}, []api.Goal{a}, true}, {[]api.Goal{a}, nil, true}, {nil, []api.Goal{a}, false}, {nil, nil, true}} {
		if GoesOn(table(t, x.now...), table(t, x.old...)) != x.want {
			t.Error(i)
		}
	}
}

func TestP23_6Consequences(t *testing.T) {
	l := many(300)
	var x Table
	var all []Table
	for i, g := range l {
		all = append(all, x)
		x, _, _, _ = x.With(g)
		x, _, _, _ = x.With(l[i/2])
	}
	for i, old := range all {
		if old.Len() != i || !GoesOn(x, old) {
			t.Fatal("a table has changed")
		}
		if at, _ := x.Find(l[i]); at != i {
			t.Fatal("a number has changed")
		}
	}
	if y := table(t, l...); !slices.Equal(x.From(0), y.From(0)) || !GoesOn(x, y) || !GoesOn(y, x) {
		t.Error("equal tables")
	}
}
