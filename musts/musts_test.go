package musts

import (
	"slices"
	"strconv"
	"testing"

	"countersign/api"
	"countersign/sets"
)

func tuple(id string) api.Tuple {
	return api.Tuple{Goal: api.Goal{Object: api.Object{Space: "x", ID: id}, Rel: "r"}, Subject: api.Subject{Object: api.Object{Space: "u", ID: "x"}}}
}

// musts returns musts written as ? or ! and an ID.
func musts(l ...string) (out []api.Must) {
	for _, s := range l {
		out = append(out, api.Must{Tuple: tuple(s[1:]), Not: s[0] == '!'})
	}
	return out
}

func changes(l ...string) (out []api.Change) {
	for _, s := range l {
		out = append(out, api.Change{Tuple: tuple(s[1:]), Drop: s[0] == '-'})
	}
	return out
}

func set(ids ...string) sets.Set {
	var l []api.Tuple
	for _, id := range ids {
		l = append(l, tuple(id))
	}
	s, _ := sets.Of(l)
	return s
}

func TestP8_1Check(t *testing.T) {
	if Check(musts("?a", "!a")) != api.OK || Check(nil) != api.OK || Check([]api.Must{{Not: true}}) != api.ErrName || Check(make([]api.Must, 33)) != api.ErrLimit || Check(make([]api.Must, 32)) != api.ErrName {
		t.Error("Check")
	}
	if CheckChanges(changes("+a", "-a")) != api.OK || CheckChanges(nil) != api.OK || CheckChanges([]api.Change{{}}) != api.ErrName || CheckChanges(make([]api.Change, 33)) != api.ErrLimit {
		t.Error("CheckChanges")
	}
}

func TestP8_2HoldsFirst(t *testing.T) {
	s := set("a")
	for m, want := range map[string]bool{"?a": true, "!a": false, "?b": false, "!b": true} {
		if Holds(s, musts(m)[0]) != want {
			t.Error(m)
		}
	}
	if Holds(s, api.Must{}) || !Holds(s, api.Must{Not: true}) {
		t.Error("a tuple that is not valid is in no set")
	}
	for i, x := range []struct {
		l  []api.Must
		at int
		e  api.Errno
	}{
		{musts("?a", "?b"), 1, api.ErrMust}, {musts("?a", "!b"), 2, api.OK}, {nil, 0, api.OK}, {musts("!a", "?b"), 0, api.ErrMust},
		{append(musts("?b"), api.Must{}), 0, api.ErrName}, {make([]api.Must, 33), 0, api.ErrLimit},
	} {
		if at, e := First(s, x.l); at != x.at || e != x.e {
			t.Error(i, at, e)
		}
	}
}

func TestP8_3Possible(t *testing.T) {
	if Possible(musts("?a", "?b", "!a")) || !Possible(musts("?a", "?a", "!b")) || !Possible(nil) || Possible([]api.Must{{}}) || !Possible([]api.Must{{Not: true}, {Not: true}}) {
		t.Error("Possible")
	}
	var l []api.Must
	for i := range 5000 {
		l = append(l, musts("?"+strconv.Itoa(i))...)
	}
	if !Possible(l) || Possible(append(l, musts("!4999")...)) {
		t.Error("sets of any size")
	}
}

func TestP8_4Write(t *testing.T) {
	s := set("a")
	out, made, e := Write(s, musts("?a", "!b"), changes("+b", "-b", "-a", "-a"))
	if e != api.OK || out.Len() != 0 || !slices.Equal(made, changes("+b", "-b", "-a")) || cap(made) != len(made) || s.Len() != 1 {
		t.Error(out.Len(), made, e)
	}
	bad := []api.Change{{}}
	for i, x := range []struct {
		l []api.Must
		c []api.Change
		e api.Errno
	}{
		{musts("?b"), changes("+b"), api.ErrMust}, {make([]api.Must, 33), bad, api.ErrLimit}, {[]api.Must{{}}, make([]api.Change, 33), api.ErrName},
		{musts("?b"), bad, api.ErrName}, {musts("?b"), make([]api.Change, 33), api.ErrLimit},
	} {
		if out, made, e := Write(s, x.l, x.c); e != x.e || out.Len() != 0 || len(made) != 0 {
			t.Error(i, e)
		}
	}
	var l []api.Tuple
	for i := range 4096 {
		l = append(l, tuple(strconv.Itoa(i)))
	}
	full, _ := sets.Of(l)
	if _, _, e := Write(full, musts("?a"), changes("+a")); e != api.ErrMust {
		t.Error("ErrMust comes first")
	}
	if out, made, e := Write(full, nil, changes("-0", "+a", "+b")); e != api.ErrLimit || out.Len() != 0 || len(made) != 0 {
		t.Error(e)
	}
	if _, _, e := Write(full, nil, changes("-0", "+a", "-1", "+b")); e != api.OK {
		t.Error(e)
	}
}

func TestP8_5Consequences(t *testing.T) {
	s := set("a", "b")
	if out, made, e := Write(s, nil, nil); e != api.OK || !sets.Same(out, s) || len(made) != 0 {
		t.Error("an empty write")
	}
	l, c := musts("?a", "!c"), changes("-a", "+c")
	out, _, _ := Write(s, l, c)
	if _, _, e := Write(out, l, c); e != api.ErrMust {
		t.Error("a second write", e)
	}
	if _, e := First(s, l); e == api.OK && !Possible(l) {
		t.Error("First and Possible")
	}
}
