package stores

import (
	"math"
	"math/rand"
	"slices"
	"strconv"
	"testing"

	"countersign/api"
	"countersign/deltas"
	"countersign/pins"
	"countersign/sets"
)

func tuple(id string) api.Tuple {
	return api.Tuple{Goal: api.Goal{Object: api.Object{Space: "x", ID: id}, Rel: "r"}, Subject: api.Subject{Object: api.Object{Space: "u", ID: "x"}}}
}

func changes(l ...string) (out []api.Change) {
	for _, s := range l {
		out = append(out, api.Change{Tuple: tuple(s[1:]), Drop: s[0] == '-'})
	}
	return out
}

func set(ids ...string) sets.Set {
	var l []api.Tuple
	for _, id := range ids {
		l = append(l, tuple(id))
	}
	s, _ := sets.Of(l)
	return s
}

// sample is a store with the revisions 1 (empty), 2 (a) and 3 (b).
func sample(t *testing.T) *Store {
	t.Helper()
	s := New()
	if rev, e := s.Write(nil, changes("+a")); rev != 2 || e != api.OK {
		t.Fatal(rev, e)
	}
	if rev, e := s.Write([]api.Must{{Tuple: tuple("a")}}, changes("+b", "-a")); rev != 3 || e != api.OK {
		t.Fatal(rev, e)
	}
	return s
}

func at(t *testing.T, s *Store, rev uint64) sets.Set {
	t.Helper()
	x, e := s.At(rev)
	if e != api.OK {
		t.Fatal(rev, e)
	}
	return x
}

func TestP10_1NewNewestKept(t *testing.T) {
	s := New()
	if s.Newest() != 1 || !slices.Equal(s.Kept(), []uint64{1}) || at(t, s, 1).Len() != 0 {
		t.Error("at the beginning")
	}
	s = sample(t)
	if s.Newest() != 3 || !slices.Equal(s.Kept(), []uint64{1, 2, 3}) || cap(s.Kept()) != 3 {
		t.Error(s.Kept())
	}
	for _, none := range []*Store{nil, {}} {
		if none.Newest() != 0 || len(none.Kept()) != 0 || none.Copy() != nil || none.Pins().Total() != 0 {
			t.Error("no store")
		}
		_, e1 := none.At(0)
		_, e2 := none.Write(nil, nil)
		_, e3 := none.Collect(0)
		_, e4 := none.Delta(0, 0)
		for i, e := range []api.Errno{e1, e2, e3, e4, none.Pin(0), none.Unpin(1)} {
			if e != api.ErrNil {
				t.Error(i, e)
			}
		}
	}
}

func TestP10_2AtDelta(t *testing.T) {
	s := sample(t)
	if !sets.Same(at(t, s, 2), set("a")) || !sets.Same(at(t, s, 0), set("b")) {
		t.Error("At")
	}
	if x, e := s.At(4); e != api.ErrRevision || x.Len() != 0 {
		t.Error(e)
	}
	if d, e := s.Delta(2, 0); e != api.OK || !slices.Equal(d, changes("-a", "+b")) {
		t.Error(d, e)
	}
	if _, e := s.Delta(4, 1); e != api.ErrRevision {
		t.Error(e)
	}
	if _, e := s.Delta(1, 4); e != api.ErrRevision {
		t.Error(e)
	}
}

func TestP10_3Write(t *testing.T) {
	s := sample(t)
	if rev, e := s.Write([]api.Must{{Tuple: tuple("a")}}, nil); rev != 0 || e != api.ErrMust || s.Newest() != 3 {
		t.Error(e)
	}
	if rev, e := s.Write(nil, make([]api.Change, 33)); e != api.ErrLimit || rev != 0 {
		t.Error(e)
	}
	if rev, e := s.Write(nil, nil); rev != 4 || e != api.OK || at(t, s, 4).Len() != 1 {
		t.Error(rev, e)
	}
	for s.Newest() < 1024 {
		s.Write(nil, nil)
	}
	if rev, e := s.Write(nil, nil); e != api.ErrLimit || rev != 0 || s.Newest() != 1024 {
		t.Error(e)
	}
	if _, e := s.Write([]api.Must{{Tuple: tuple("a")}}, nil); e != api.ErrMust {
		t.Error("the error of the write comes first", e)
	}
	last, _ := Make([]uint64{math.MaxUint64}, []sets.Set{{}}, pins.Pins{})
	if _, e := last.Write(nil, nil); e != api.ErrLimit {
		t.Error(e)
	}
}

func TestP10_4Pins(t *testing.T) {
	s := sample(t)
	if s.Pin(2) != api.OK || s.Pin(2) != api.OK || s.Pin(0) != api.ErrRevision || s.Pin(4) != api.ErrRevision || s.Pins().Count(2) != 2 {
		t.Error("Pin")
	}
	if s.Unpin(2) != api.OK || s.Unpin(2) != api.OK || s.Unpin(2) != api.ErrNone || s.Unpin(0) != api.ErrRevision || s.Unpin(9) != api.ErrRevision || s.Pins().Total() != 0 {
		t.Error("Unpin")
	}
	for range 4096 {
		s.Pin(1)
	}
	if s.Pin(1) != api.ErrLimit || s.Pins().Count(1) != 4096 {
		t.Error("too many pins")
	}
}

func TestP10_5Collect(t *testing.T) {
	s := sample(t)
	s.Pin(2)
	if gone, e := s.Collect(1); e != api.OK || !slices.Equal(gone, []uint64{1}) || !slices.Equal(s.Kept(), []uint64{2, 3}) {
		t.Error(gone, e)
	}
	if _, e := s.At(1); e != api.ErrRevision {
		t.Error(e)
	}
	if rev, _ := s.Write(nil, nil); rev != 4 {
		t.Error(rev)
	}
	s.Unpin(2)
	if gone, _ := s.Collect(2); !slices.Equal(gone, []uint64{2}) {
		t.Error(gone)
	}
	for _, keep := range []int{0, -1, 1025} {
		if gone, e := s.Collect(keep); e != api.ErrRange || len(gone) != 0 {
			t.Error(keep, e)
		}
	}
	if gone, e := s.Collect(1024); e != api.OK || len(gone) != 0 {
		t.Error(gone, e)
	}
}

// made returns a store whose revisions from 1 on have a tuple, or none.
func made(ids ...string) *Store {
	var revs []uint64
	var l []sets.Set
	for i, id := range ids {
		revs = append(revs, uint64(i+1))
		if id == "" {
			l = append(l, set())
		} else {
			l = append(l, set(id))
		}
	}
	s, _ := Make(revs, l, pins.Pins{})
	return s
}

func TestP10_6CopySame(t *testing.T) {
	s := sample(t)
	c := s.Copy()
	if !Same(s, c) || !Same(c, s) || !Same(s, made("", "a", "b")) {
		t.Error("Copy")
	}
	for i, change := range []func(s *Store){
		func(s *Store) { s.Pin(1) }, func(s *Store) { s.Collect(1) }, func(s *Store) { s.Write(nil, nil) }, func(s *Store) { s.Pin(3) }, func(s *Store) { *s = *made("", "c", "b") }, func(s *Store) { *s = *made("a", "", "b") }, func(s *Store) { *s = *made("", "a") },
	} {
		other := s.Copy()
		change(other)
		if Same(s, other) || !Same(s, c) {
			t.Error(i)
		}
	}
	if !Same(nil, nil) || !Same(nil, &Store{}) || !Same(&Store{}, &Store{}) || Same(nil, s) || Same(s, &Store{}) {
		t.Error("no stores")
	}
}

func TestP10_7Make(t *testing.T) {
	p, _ := pins.Pins{}.Pin(5)
	s, e := Make([]uint64{2, 5}, []sets.Set{set("a"), set("b")}, p)
	if e != api.OK || s.Newest() != 5 || !sets.Same(at(t, s, 2), set("a")) || s.Pins().Count(5) != 1 {
		t.Error(e)
	}
	long := make([]uint64, 1025)
	var most []uint64
	for i := range 1024 {
		most = append(most, uint64(i+1))
	}
	if s, e := Make(most, make([]sets.Set, 1024), p); e != api.OK || len(s.Kept()) != 1024 {
		t.Error(e)
	}
	for i, x := range []struct {
		revs []uint64
		l    []sets.Set
		e    api.Errno
	}{
		{nil, nil, api.ErrArg}, {[]uint64{5}, nil, api.ErrArg}, {long, make([]sets.Set, 1025), api.ErrLimit}, {long, nil, api.ErrArg}, {[]uint64{0, 5}, make([]sets.Set, 2), api.ErrOrder},
		{[]uint64{5, 5}, make([]sets.Set, 2), api.ErrOrder}, {[]uint64{4, 6}, make([]sets.Set, 2), api.ErrRevision},
	} {
		if s, e := Make(x.revs, x.l, p); e != x.e || s != nil {
			t.Error(i, e)
		}
	}
}

func TestP10_8Consequences(t *testing.T) {
	r := rand.New(rand.NewSource(1))
	s := New()
	seen := map[uint64][]api.Tuple{}
	for range 400 {
		switch r.Intn(4) {
		case 0, 1:
			old := s.Newest()
			rev, _ := s.Write(nil, []api.Change{{Tuple: tuple(strconv.Itoa(r.Intn(20))), Drop: r.Intn(2) == 0}})
			if rev != old+1 {
				t.Fatal("a number was used twice")
			}
			seen[rev] = at(t, s, rev).List()
		case 2:
			s.Pin(s.Kept()[r.Intn(len(s.Kept()))])
		case 3:
			s.Collect(r.Intn(4) + 1)
		}
		var l []sets.Set
		for _, rev := range s.Kept() {
			x := at(t, s, rev)
			if !slices.Equal(x.List(), seen[rev]) {
				t.Fatal("a revision has changed")
			}
			l = append(l, x)
			d, _ := s.Delta(rev, 0)
			if y, e := deltas.Apply(x, d); e != api.OK || !sets.Same(y, at(t, s, 0)) {
				t.Fatal("Delta")
			}
		}
		for _, rev := range append(s.Pins().Held(), s.Newest()) {
			at(t, s, rev)
		}
		if again, e := Make(s.Kept(), l, s.Pins()); e != api.OK || !Same(again, s) {
			t.Fatal("Make")
		}
	}
}
