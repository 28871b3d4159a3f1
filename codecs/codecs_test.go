package codecs

import (
	"bytes"
	"math"
	"testing"

	"countersign/api"
)

var (
	object  = api.Object{Space: "doc", ID: "x"}
	goal    = api.Goal{Object: object, Rel: "viewer"}
	subject = api.Subject{Object: api.Object{Space: "group", ID: "0123456789abcdef"}, Rel: "member"}
	tuple   = api.Tuple{Goal: goal, Subject: subject}
	query   = api.Query{Kind: 200, Goal: goal, User: object}
)

// same reads a value with a method, and tells whether it is another one.
func same[T comparable](read func() T, x T) bool { return read() == x }

// values are writes and reads of all kinds of values.
func values() (writes []func(w *Writer), reads []func(r *Reader) bool) {
	add := func(w func(*Writer), r func(*Reader) bool) {
		writes, reads = append(writes, w), append(reads, r)
	}
	for _, n := range []uint64{0, 1, 127, 128, 300, 16383, 16384, math.MaxInt64, 1 << 63, math.MaxUint64} {
		add(func(w *Writer) { w.Number(n) }, func(r *Reader) bool { return same(r.Number, n) })
		add(func(w *Writer) { w.Int(-int64(n)) }, func(r *Reader) bool { return same(r.Int, -int64(n)) })
		add(func(w *Writer) { w.Small(uint8(n)) }, func(r *Reader) bool { return same(r.Small, uint8(n)) })
	}
	for _, b := range []bool{false, true} {
		add(func(w *Writer) { w.Bool(b) }, func(r *Reader) bool { return same(r.Bool, b) })
		change, must := api.Change{Tuple: tuple, Drop: b}, api.Must{Tuple: tuple, Not: b}
		add(func(w *Writer) { w.Change(change) }, func(r *Reader) bool { return same(r.Change, change) })
		add(func(w *Writer) { w.Must(must) }, func(r *Reader) bool { return same(r.Must, must) })
	}
	for _, s := range []string{"", "ab", "\x00\xff"} {
		add(func(w *Writer) { w.Text(s) }, func(r *Reader) bool { return r.Text(2) == s })
	}
	add(func(w *Writer) { w.Object(object) }, func(r *Reader) bool { return same(r.Object, object) })
	add(func(w *Writer) { w.Goal(goal) }, func(r *Reader) bool { return same(r.Goal, goal) })
	add(func(w *Writer) { w.Subject(subject) }, func(r *Reader) bool { return same(r.Subject, subject) })
	add(func(w *Writer) { w.Tuple(tuple) }, func(r *Reader) bool { return same(r.Tuple, tuple) })
	add(func(w *Writer) { w.Query(query) }, func(r *Reader) bool { return same(r.Query, query) })
	add(func(w *Writer) { w.Number(12) }, func(r *Reader) bool { return r.Len(12) == 12 })
	return writes, reads
}

func TestP4_1Writer(t *testing.T) {
	for i, x := range []struct {
		write func(w *Writer)
		want  []byte
	}{
		{func(w *Writer) { w.Number(300) }, []byte{172, 2}},
		{func(w *Writer) { w.Int(-1) }, []byte{255, 255, 255, 255, 255, 255, 255, 255, 255, 1}},
		{func(w *Writer) { w.Bool(true) }, []byte{1}},
		{func(w *Writer) { w.Small(255) }, []byte{255, 1}},
		{func(w *Writer) { w.Text("ab") }, []byte{2, 97, 98}},
		{func(w *Writer) { w.Object(api.Object{Space: "a", ID: "b"}) }, []byte{1, 97, 1, 98}},
		{func(w *Writer) { w.Goal(api.Goal{Rel: "a"}) }, []byte{0, 0, 1, 97}},
		{func(w *Writer) { w.Change(api.Change{Drop: true}) }, []byte{0, 0, 0, 0, 0, 0, 1}},
		{func(w *Writer) { w.Must(api.Must{Not: true}) }, []byte{0, 0, 0, 0, 0, 0, 1}},
		{func(w *Writer) { w.Query(api.Query{Kind: 2}) }, []byte{2, 0, 0, 0, 0, 0}},
	} {
		w := &Writer{}
		x.write(w)
		if !bytes.Equal(w.Bytes(), x.want) || w.Len() != len(x.want) || cap(w.Bytes()) != len(x.want) {
			t.Error(i, w.Bytes())
		}
		b := w.Bytes()
		b[0]++
		if w.Bytes()[0] != x.want[0] {
			t.Error(i, "shared")
		}
	}
	var none *Writer
	writes, _ := values()
	for _, f := range writes {
		f(none)
	}
	if none.Len() != 0 || len(none.Bytes()) != 0 || (&Writer{}).Len() != 0 {
		t.Error("a nil writer")
	}
}

func TestP4_2Reading(t *testing.T) {
	b := []byte{172, 2}
	r := Of(b)
	b[0] = 0
	if r.Number() != 300 || r.At() != 2 || r.Left() != 0 {
		t.Error("Of has to copy")
	}
	if r := Of([]byte{2, 97, 98}); r.Text(2) != "ab" || r.Failed() {
		t.Error("a text at the end")
	}
	type fault struct {
		bytes []byte
		read  func(r *Reader)
		at    int
		err   api.Errno
	}
	number := func(r *Reader) { r.Number() }
	ten := []byte{255, 255, 255, 255, 255, 255, 255, 255, 255}
	long := append([]byte{17}, make([]byte, 17)...)
	for i, x := range []fault{
		{[]byte{172}, number, 1, api.ErrShort}, {nil, number, 0, api.ErrShort}, {[]byte{128, 0}, number, 1, api.ErrForm}, {[]byte{128, 128, 0}, number, 2, api.ErrForm},
		{append(ten, 2), number, 9, api.ErrForm}, {append(ten, 129, 1), number, 9, api.ErrForm}, {append(ten, 0), number, 9, api.ErrForm}, {ten, number, 9, api.ErrShort},
		{[]byte{2}, func(r *Reader) { r.Bool() }, 0, api.ErrForm}, {[]byte{128, 2}, func(r *Reader) { r.Small() }, 0, api.ErrForm},
		{[]byte{5, 97}, func(r *Reader) { r.Text(4) }, 0, api.ErrLimit}, {[]byte{5, 97}, func(r *Reader) { r.Text(5) }, 2, api.ErrShort},
		{[]byte{1}, func(r *Reader) { r.Len(-5) }, 0, api.ErrLimit}, {append(ten, 1), func(r *Reader) { r.Len(math.MaxInt) }, 0, api.ErrLimit},
		{long, func(r *Reader) { r.Object() }, 0, api.ErrLimit}, {append([]byte{1, 97}, long...), func(r *Reader) { r.Goal() }, 2, api.ErrLimit},
		{[]byte{1, 97, 1, 97, 1, 97, 0, 0, 0, 2}, func(r *Reader) { r.Change() }, 9, api.ErrForm},
	} {
		r := Of(x.bytes)
		x.read(r)
		if at, e := r.Fault(); at != x.at || e != x.err || r.At() != 0 || !r.Failed() {
			t.Error(i, at, e, r.At())
		}
	}
}

func TestP4_3PlacesAndFaults(t *testing.T) {
	r := Of([]byte{1, 1, 97, 2, 0})
	if !r.Bool() || r.At() != 1 || r.Left() != 4 || r.Failed() {
		t.Error("at the beginning")
	}
	if at, e := r.End(); at != 1 || e != api.ErrForm {
		t.Error("bytes are left", at, e)
	}
	if r.Object() != (api.Object{}) || r.At() != 1 {
		t.Error("a value that cannot be read")
	}
	if at, e := r.Fault(); at != 5 || e != api.ErrShort {
		t.Error(at, e)
	}
	if r.Number() != 0 || r.Text(5) != "" || r.Len(9) != 0 || r.Tuple() != (api.Tuple{}) || r.At() != 1 || r.Left() != 4 {
		t.Error("behind a fault")
	}
	if at, e := r.End(); at != 5 || e != api.ErrShort {
		t.Error(at, e)
	}
	var none *Reader
	if none.At() != 0 || none.Left() != 0 || !none.Failed() || none.Number() != 0 || none.Text(4) != "" || none.Query() != (api.Query{}) || none.Bool() {
		t.Error("a nil reader")
	}
	if at, e := none.Fault(); at != 0 || e != api.ErrNil {
		t.Error(at, e)
	}
	if at, e := none.End(); at != 0 || e != api.ErrNil {
		t.Error(at, e)
	}
	if at, e := (&Reader{}).End(); at != 0 || e != api.OK {
		t.Error("the zero reader")
	}
}

func TestP4_4Consequences(t *testing.T) {
	writes, reads := values()
	w := &Writer{}
	for _, f := range writes {
		f(w)
	}
	b := w.Bytes()
	r := Of(b)
	for i, f := range reads {
		if !f(r) {
			t.Error(i)
		}
	}
	if at, e := r.End(); at != 0 || e != api.OK {
		t.Error(at, e)
	}
	for n := range b {
		r := Of(b[:n])
		for _, f := range reads {
			f(r)
		}
		if at, e := r.End(); at != n || e != api.ErrShort {
			t.Fatal(n, at, e)
		}
	}
	for i := range 1 << 16 {
		b := []byte{byte(i), byte(i >> 8)}
		r, w := Of(b), &Writer{}
		w.Number(r.Number())
		if !r.Failed() && !bytes.Equal(w.Bytes(), b[:r.At()]) {
			t.Fatal(b)
		}
	}
}
