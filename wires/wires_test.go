package wires

import (
	"bytes"
	"math/rand"
	"slices"
	"strconv"
	"strings"
	"testing"

	"countersign/api"
	"countersign/codecs"
	"countersign/pins"
	"countersign/sets"
	"countersign/stores"
)

const (
	lineA = "doc:a#viewer@user:x\n"
	lineB = "doc:b#viewer@user:x\n"
)

func tuple(id string) api.Tuple {
	return api.Tuple{Goal: api.Goal{Object: api.Object{Space: "doc", ID: id}, Rel: "viewer"}, Subject: api.Subject{Object: api.Object{Space: "user", ID: "x"}}}
}

func many(n int) []api.Tuple {
	l := make([]api.Tuple, n)
	for i := range l {
		l[i] = tuple(strconv.Itoa(10000 + i))
	}
	return l
}

// bytesOf returns the bytes of numbers, changes (by + or -, and an ID), and tuples (by an ID).
func bytesOf(l ...any) []byte {
	var w codecs.Writer
	for _, x := range l {
		switch x := x.(type) {
		case int:
			w.Number(uint64(x))
		case uint64:
			w.Number(x)
		case api.Tuple:
			w.Tuple(x)
		case string:
			w.Change(api.Change{Tuple: tuple(x[1:]), Drop: x[0] == '-'})
		}
	}
	return w.Bytes()
}

func TestP11_1Texts(t *testing.T) {
	a, b := tuple("a"), tuple("b")
	if s, e := Text([]api.Tuple{b, a, b}); e != api.OK || s != lineB+lineA+lineB {
		t.Error(s, e)
	}
	if s, e := ChangesText([]api.Change{{Tuple: a}, {Tuple: b, Drop: true}}); e != api.OK || s != "+"+lineA+"-"+lineB {
		t.Error(s, e)
	}
	if s, e := Text(many(4096)); e != api.OK || strings.Count(s, "\n") != 4096 {
		t.Error(e)
	}
	if s, e := Text(make([]api.Tuple, 4097)); e != api.ErrLimit || s != "" {
		t.Error(e)
	}
	if s, e := Text([]api.Tuple{a, {}}); e != api.ErrName || s != "" {
		t.Error(e)
	}
	if _, e := ChangesText(make([]api.Change, 4097)); e != api.ErrLimit {
		t.Error(e)
	}
	if _, e := ChangesText(make([]api.Change, 1)); e != api.ErrName {
		t.Error(e)
	}
}

func TestP11_2Parse(t *testing.T) {
	long := strings.Repeat(lineA, 4096)
	form, limit := api.ErrForm, api.ErrLimit
	for i, x := range []struct {
		s    string
		line int
		e    api.Errno
	}{
		{"", 0, 0}, {lineA + lineB, 0, 0}, {lineA[:len(lineA)-1], 1, form}, {lineA + "x", 2, form}, {"\n", 1, form}, {lineA + "doc:A#v@u:x\n" + "x", 2, api.ErrName},
		{long, 0, 0}, {long + "x", 4097, limit}, {strings.Repeat("\n", 1<<20+1), 0, limit}, {strings.Repeat("\n", 1<<20), 1, form}, {"+" + lineA, 1, api.ErrName},
	} {
		if l, line, e := Parse(x.s); line != x.line || e != x.e || e != 0 && len(l) != 0 || cap(l) != len(l) {
			t.Error(i, line, e)
		}
	}
	for i, x := range []struct {
		s    string
		line int
		e    api.Errno
	}{
		{"", 0, 0}, {"+" + lineA + "-" + lineB, 0, 0}, {lineA, 1, form}, {"\n", 1, form}, {"+" + lineA + "-", 2, form}, {"+x", 1, form}, {"+\n", 1, form}, {"+" + lineA + "-doc:A#v@u:x\n", 2, api.ErrName},
		{strings.Repeat("+"+lineA, 4096) + "\n", 4097, limit}, {strings.Repeat("\n", 1<<20+1), 0, limit},
	} {
		if l, line, e := ParseChanges(x.s); line != x.line || e != x.e || e != 0 && len(l) != 0 {
			t.Error(i, line, e)
		}
	}
}

func TestP11_3Sets(t *testing.T) {
	a, b := tuple("a"), tuple("b")
	s, _ := sets.Of([]api.Tuple{b, a})
	good := bytesOf(2, a, b)
	if !bytes.Equal(SetBytes(s), good) || !bytes.Equal(SetBytes(sets.Set{}), []byte{0}) {
		t.Error(SetBytes(s))
	}
	n := len(bytesOf(a))
	for i, x := range []struct {
		b  []byte
		at int
		e  api.Errno
	}{
		{good, 0, 0}, {[]byte{0}, 0, 0}, {nil, 0, api.ErrShort}, {bytesOf(4097), 0, api.ErrLimit}, {bytesOf(2, a, a), 1 + n, api.ErrOrder}, {bytesOf(2, b, a), 1 + n, api.ErrOrder},
		{bytesOf(1, api.Tuple{}), 1, api.ErrName}, {bytesOf(2, a, api.Tuple{}), 1 + n, api.ErrName}, {append(slices.Clone(good), 7), len(good), api.ErrForm}, {[]byte{128, 0}, 1, api.ErrForm}, {[]byte{1, 17}, 1, api.ErrLimit},
	} {
		if s, at, e := ReadSet(x.b); at != x.at || e != x.e || e != 0 && s.Len() != 0 {
			t.Error(i, at, e)
		}
	}
}

func TestP11_4Stores(t *testing.T) {
	fresh := stores.New()
	if b, e := Dump(fresh); e != api.OK || !bytes.Equal(b, []byte{1, 1, 0, 0}) {
		t.Error(b, e)
	}
	for _, none := range []*stores.Store{nil, {}} {
		if b, e := Dump(none); e != api.ErrNil || len(b) != 0 {
			t.Error(e)
		}
	}
	n := len(bytesOf("+a"))
	full := func(more ...any) []byte {
		l := []any{2, 1, 0, 4096}
		for _, x := range many(4096) {
			l = append(l, "+"+x.Goal.Object.ID)
		}
		return bytesOf(append(append(l, 1, 0), more...)...)
	}
	for i, x := range []struct {
		b  []byte
		at int
		e  api.Errno
	}{
		{bytesOf(2, 5, 3, 1, "+a", 2, 0, 2, "-a", "+b"), 0, 0}, {[]byte{0}, 0, api.ErrForm}, {[]byte{1, 0}, 1, api.ErrForm}, {[]byte{1, 1, 0, 0, 7}, 4, api.ErrForm}, {[]byte{1, 1}, 2, api.ErrShort},
		{bytesOf(1025), 0, api.ErrLimit}, {bytesOf(1, 1, 4097), 2, api.ErrLimit}, {bytesOf(1, 1, 0, 8193), 3, api.ErrLimit}, {bytesOf(2, 1, 0, 0, 0), 4, api.ErrForm},
		{bytesOf(2, ^uint64(0), 0, 0, 1, 0, 0), 13, api.ErrForm}, {bytesOf(1, ^uint64(0), 0, 0), 0, 0}, {bytesOf(1, 1, 0, 1, "-a"), 4, api.ErrForm}, {bytesOf(2, 1, 0, 1, "+a", 1, 0, 1, "+a"), 4 + n + 3, api.ErrForm},
		{bytesOf(1, 1, 0, 2, "+b", "+a"), 4 + n, api.ErrOrder}, {bytesOf(1, 1, 0, 2, "+b", "-b"), 4 + n, api.ErrOrder}, {bytesOf(1, 1, 0, 2, "+b", "+A"), 4 + n, api.ErrName}, {bytesOf(1, 1, 0, 2, "+b", "-a"), 4 + n, api.ErrOrder},
		{full(1, "+a"), len(full()), api.ErrLimit}, {full(2, "+1", "-10000"), 0, 0},
	} {
		s, at, e := Load(x.b)
		if at != x.at || e != x.e || (e == 0) != (s != nil) {
			t.Error(i, at, e)
		}
		if back, _ := Dump(s); e == 0 && !bytes.Equal(back, x.b) {
			t.Error(i, "Dump")
		}
	}
}

func TestP11_5Consequences(t *testing.T) {
	r := rand.New(rand.NewSource(1))
	s := stores.New()
	for range 40 {
		s.Write(nil, []api.Change{{Tuple: tuple(strconv.Itoa(r.Intn(9))), Drop: r.Intn(3) == 0}, {Tuple: tuple(strconv.Itoa(r.Intn(9))), Drop: r.Intn(3) == 0}})
		s.Pin(s.Newest())
		s.Unpin(uint64(r.Intn(9)))
		s.Collect(5)
		b, _ := Dump(s)
		if back, at, e := Load(b); e != api.OK || at != 0 || !stores.Same(back, s) {
			t.Fatal(at, e)
		}
		for n := range b {
			if _, at, e := Load(b[:n]); at != n || e != api.ErrShort {
				t.Fatal(n, at, e)
			}
		}
		set, _ := s.At(0)
		c := SetBytes(set)
		if back, _, e := ReadSet(c); e != api.OK || !sets.Same(back, set) {
			t.Fatal(e)
		}
		for n := range c {
			if _, at, e := ReadSet(c[:n]); at != n || e != api.ErrShort {
				t.Fatal(n, at, e)
			}
		}
		text, _ := Text(set.List())
		if l, _, e := Parse(text); e != api.OK || !slices.Equal(l, set.List()) {
			t.Fatal(e)
		}
		d, _ := s.Delta(s.Kept()[0], 0)
		text, _ = ChangesText(d)
		if l, _, e := ParseChanges(text); e != api.OK || !slices.Equal(l, d) {
			t.Fatal(e)
		}
	}
	if _, e := stores.Make([]uint64{1}, []sets.Set{{}}, pins.Pins{}); e != api.OK {
		t.Error(e)
	}
}
