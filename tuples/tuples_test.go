package tuples

import (
	"math/rand"
	"slices"
	"strconv"
	"strings"
	"testing"

	"countersign/api"
)

// list returns the tuples with some texts.
func list(t *testing.T, texts ...string) []api.Tuple {
	t.Helper()
	var l []api.Tuple
	for _, s := range texts {
		x, e := Parse(s)
		if e != api.OK {
			t.Fatal(s, e)
		}
		l = append(l, x)
	}
	return l
}

func texts(l []api.Tuple) string {
	var out []string
	for _, t := range l {
		out = append(out, Text(t))
	}
	return strings.Join(out, " ")
}

func many(n int) []api.Tuple {
	l := make([]api.Tuple, n)
	for i := range l {
		id := strconv.Itoa(100000 + i)
		l[i] = api.Tuple{Goal: api.Goal{Object: api.Object{Space: "a", ID: id}, Rel: "r"}, Subject: api.Subject{Object: api.Object{Space: "u", ID: "x"}}}
	}
	return l
}

func TestP2_1CheckCompare(t *testing.T) {
	l := list(t, "a:x#r@u:a", "a:x#r@u:a#r", "a:x#s@u:a", "a:y#a@u:a")
	for i, a := range l {
		if Check(a) != api.OK {
			t.Error(a)
		}
		for j, b := range l {
			want := 0
			if i < j {
				want = -1
			} else if i > j {
				want = 1
			}
			if Compare(a, b) != want {
				t.Error(i, j)
			}
		}
	}
	bad := l[0]
	bad.Subject.Object.ID = "A"
	if Check(bad) != api.ErrName || Check(api.Tuple{}) != api.ErrName || Compare(api.Tuple{}, bad) != -1 {
		t.Error("tuples that are not valid")
	}
}

func TestP2_2TextParse(t *testing.T) {
	for s, want := range map[string]api.Errno{
		"doc:a#viewer@group:eng#member": 0, "doc:a#viewer@user:b": 0, "doc:a#viewer": api.ErrForm, "doc:a@user:b": api.ErrForm, "doc:a#v@@u:b": api.ErrForm,
		"doc:a#v@U:b": api.ErrName, "doc:a#V@u": api.ErrName, "doc:a#v@u": api.ErrForm, "doc:a#v@u:b#": api.ErrName, "": api.ErrForm, "@": api.ErrForm,
	} {
		x, e := Parse(s)
		if e != want || e == api.OK && Text(x) != s || e != api.OK && x != (api.Tuple{}) {
			t.Error(s, x, e)
		}
	}
	if Text(api.Tuple{}) != ":#@:" {
		t.Error("the text of the zero tuple")
	}
}

func TestP2_3SortedIs(t *testing.T) {
	l := list(t, "b:x#r@u:a", "a:x#r@u:b", "a:x#r@u:a", "b:x#r@u:a")
	old := slices.Clone(l)
	s := Sorted(l)
	if texts(s) != "a:x#r@u:a a:x#r@u:b b:x#r@u:a" || !slices.Equal(l, old) || cap(s) != len(s) {
		t.Error(texts(s))
	}
	if Is(l) || !Is(s) || !Is(nil) || Is([]api.Tuple{{}, {}}) || !Is([]api.Tuple{{}}) {
		t.Error("Is")
	}
}

func TestP2_4Find(t *testing.T) {
	l := list(t, "a:x#r@u:a", "a:x#r@u:b", "b:x#r@u:a")
	for i, x := range l {
		if at, found := Find(l, x); at != i || !found {
			t.Error(i, at, found)
		}
	}
	for s, want := range map[string]int{"c:x#r@u:a": 3, "a:a#a@a:a": 0, "a:x#r@u:b#r": 2} {
		if at, found := Find(l, list(t, s)[0]); at != want || found {
			t.Error(s, at, found)
		}
	}
	if at, found := Find([]api.Tuple{l[0], l[1], l[1]}, l[1]); at != 0 || found {
		t.Error("a list that is not sorted")
	}
}

func TestP2_5UnionCommonWithout(t *testing.T) {
	a, b := list(t, "a:x#r@u:a", "a:x#r@u:b"), list(t, "a:x#r@u:b", "b:x#r@u:a")
	u, e1 := Union(a, b)
	c, e2 := Common(a, b)
	w, e3 := Without(a, b)
	if e1 != 0 || e2 != 0 || e3 != 0 || texts(u) != "a:x#r@u:a a:x#r@u:b b:x#r@u:a" || texts(c) != "a:x#r@u:b" || texts(w) != "a:x#r@u:a" {
		t.Error(texts(u), texts(c), texts(w))
	}
	if cap(u) != len(u) || cap(c) != len(c) || cap(w) != len(w) {
		t.Error("spare capacity")
	}
	turned := []api.Tuple{a[1], a[0]}
	long := append(many(4096), turned...)
	for _, f := range []func(a, b []api.Tuple) ([]api.Tuple, api.Errno){Union, Common, Without} {
		if l, e := f(turned, nil); e != api.ErrOrder || len(l) != 0 {
			t.Error(e)
		}
		if _, e := f(nil, turned); e != api.ErrOrder {
			t.Error(e)
		}
		if _, e := f(turned, long); e != api.ErrLimit {
			t.Error(e)
		}
	}
	all := many(8192)
	if l, e := Union(all[:4096], all[4096:]); e != api.OK || len(l) != 8192 {
		t.Error(len(l), e)
	}
}

func TestP2_6Consequences(t *testing.T) {
	all := many(12)
	r := rand.New(rand.NewSource(1))
	for range 200 {
		var a, b []api.Tuple
		for _, x := range all {
			if r.Intn(2) == 0 {
				a = append(a, x)
			}
			if r.Intn(2) == 0 {
				b = append(b, x)
			}
		}
		u, _ := Union(a, b)
		u2, _ := Union(b, a)
		c, _ := Common(a, b)
		c2, _ := Common(b, a)
		x, _ := Without(a, b)
		y, _ := Without(b, a)
		if !slices.Equal(u, u2) || !slices.Equal(c, c2) || !slices.Equal(Sorted(a), a) {
			t.Fatal("order of arguments")
		}
		parts := slices.Concat(x, c, y)
		if len(parts) != len(u) || !slices.Equal(Sorted(parts), u) {
			t.Fatal("parts")
		}
	}
}
