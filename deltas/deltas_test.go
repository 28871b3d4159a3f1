package deltas

import (
	"math/rand"
	"slices"
	"strconv"
	"testing"

	"countersign/api"
	"countersign/sets"
)

func tuple(id string) api.Tuple {
	return api.Tuple{Goal: api.Goal{Object: api.Object{Space: "a", ID: id}, Rel: "r"}, Subject: api.Subject{Object: api.Object{Space: "u", ID: "x"}}}
}

// changes returns changes written as + or - and an ID.
func changes(l ...string) []api.Change {
	var out []api.Change
	for _, s := range l {
		out = append(out, api.Change{Tuple: tuple(s[1:]), Drop: s[0] == '-'})
	}
	return out
}

func set(ids ...string) sets.Set {
	var l []api.Tuple
	for _, id := range ids {
		l = append(l, tuple(id))
	}
	s, _ := sets.Of(l)
	return s
}

func many(sign string, from, to int) []api.Change {
	var l []api.Change
	for i := from; i < to; i++ {
		l = append(l, changes(sign+strconv.Itoa(10000+i))...)
	}
	return l
}

func TestP7_1CheckIs(t *testing.T) {
	if Check(changes("+a", "-a")) != api.OK || Check(nil) != api.OK || Check([]api.Change{{}}) != api.ErrName || Check([]api.Change{{Drop: true}}) != api.ErrName {
		t.Error("Check")
	}
	if Check(many("+", 0, 4096)) != api.OK || Check(append(many("+", 0, 4096), api.Change{})) != api.ErrLimit {
		t.Error("the limit")
	}
	if !Is(changes("+a", "-b")) || Is(changes("-b", "+a")) || Is(changes("+a", "-a")) || !Is(nil) || !Is([]api.Change{{}}) || Is(make([]api.Change, 2)) {
		t.Error("Is")
	}
}

func TestP7_2NormalCompose(t *testing.T) {
	l := changes("+c", "-a", "+a", "-c", "+b")
	old := slices.Clone(l)
	n, e := Normal(l)
	if e != api.OK || !slices.Equal(n, changes("+a", "+b", "-c")) || !slices.Equal(l, old) || cap(n) != len(n) {
		t.Error(n, e)
	}
	if n, e := Normal([]api.Change{{}}); e != api.ErrName || len(n) != 0 {
		t.Error(e)
	}
	c, e := Compose(changes("+a", "-b"), changes("+b", "-c"))
	if e != api.OK || !slices.Equal(c, changes("+a", "+b", "-c")) {
		t.Error(c, e)
	}
	b := changes("+b", "+a")
	if c, _ := Compose(b, nil); !slices.Equal(c, changes("+a", "+b")) || !slices.Equal(b, changes("+b", "+a")) {
		t.Error("an argument was changed")
	}
	bad, long := []api.Change{{}}, many("+", 0, 4097)
	if _, e := Compose(bad, long); e != api.ErrName {
		t.Error(e)
	}
	if _, e := Compose(long, bad); e != api.ErrLimit {
		t.Error(e)
	}
	if _, e := Compose(many("+", 0, 4096), many("+", 1, 4097)); e != api.ErrLimit {
		t.Error(e)
	}
	if c, e := Compose(many("+", 0, 4096), many("-", 0, 4096)); e != api.OK || len(c) != 4096 {
		t.Error(e)
	}
}

func TestP7_3Apply(t *testing.T) {
	s, e := Apply(set("a", "b"), changes("+a", "-b", "+c", "-c"))
	if e != api.OK || !sets.Same(s, set("a")) {
		t.Error(e)
	}
	if _, e := Apply(set(), []api.Change{{}}); e != api.ErrName {
		t.Error(e)
	}
	full, _ := Apply(set(), many("+", 0, 4096))
	if s, e := Apply(full, append(many("+", 4096, 4097), many("-", 0, 1)...)); e != api.ErrLimit || s.Len() != 0 {
		t.Error("too many on the way", e)
	}
	if _, e := Apply(full, append(many("-", 0, 1), many("+", 4096, 4097)...)); e != api.OK {
		t.Error(e)
	}
}

func TestP7_4Invert(t *testing.T) {
	l, e := Invert(set("a", "b"), changes("+a", "-b", "+c", "-c"))
	if e != api.OK || !slices.Equal(l, changes("+b")) {
		t.Error(l, e)
	}
	if l, _ := Invert(set("a"), changes("+b", "-a")); !slices.Equal(l, changes("+a", "-b")) || cap(l) != len(l) {
		t.Error(l)
	}
	if l, e := Invert(set(), append(changes("+a"), api.Change{})); e != api.ErrName || len(l) != 0 {
		t.Error(e)
	}
	full, _ := Apply(set(), many("+", 0, 4096))
	if _, e := Invert(full, many("+", 4096, 4097)); e != api.ErrLimit {
		t.Error(e)
	}
}

func TestP7_5Between(t *testing.T) {
	if l := Between(set("a", "b"), set("b", "c")); !slices.Equal(l, changes("-a", "+c")) || cap(l) != len(l) {
		t.Error(l)
	}
	if len(Between(set("a"), set("a"))) != 0 || len(Between(sets.Set{}, sets.Set{})) != 0 {
		t.Error("the same sets")
	}
	if l := Between(set(), set("b", "a")); !slices.Equal(l, changes("+a", "+b")) {
		t.Error(l)
	}
}

func TestP7_6Consequences(t *testing.T) {
	r := rand.New(rand.NewSource(1))
	list := func() (out []api.Change) {
		for range r.Intn(12) {
			out = append(out, api.Change{Tuple: tuple(string(rune('a' + r.Intn(8)))), Drop: r.Intn(2) == 0})
		}
		return out
	}
	for range 500 {
		s, _ := Apply(set(), list())
		a, b, c := list(), list(), list()
		after, _ := Apply(s, a)
		n, _ := Normal(a)
		if x, _ := Apply(s, n); !sets.Same(x, after) || !Is(n) {
			t.Fatal("the normal form")
		}
		undo, _ := Invert(s, a)
		if x, _ := Apply(after, undo); !sets.Same(x, s) || !Is(undo) {
			t.Fatal("Invert")
		}
		d, back := Between(s, after), Between(after, s)
		if x, _ := Apply(s, d); !sets.Same(x, after) || !Is(d) || (len(d) == 0) != sets.Same(s, after) || !slices.Equal(back, undo) {
			t.Fatal("Between")
		}
		for i := range d {
			if back[i].Tuple != d[i].Tuple || back[i].Drop == d[i].Drop {
				t.Fatal("the delta back")
			}
		}
		ab, _ := Compose(a, b)
		bc, _ := Compose(b, c)
		x, _ := Compose(ab, c)
		y, _ := Compose(a, bc)
		if !slices.Equal(x, y) {
			t.Fatal("Compose")
		}
	}
}
