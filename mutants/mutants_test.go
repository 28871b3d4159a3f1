package mutants

import (
	"math/rand"
	"slices"
	"strconv"
	"strings"
	"testing"

	"countersign/api"
	"countersign/audits"
	"countersign/names"
	"countersign/requests"
	"countersign/scripts"
	"countersign/tuples"
)

func script(t *testing.T, flaw uint8) scripts.Script {
	t.Helper()
	s, e := Script(flaw)
	if e != api.OK {
		t.Fatal(flaw, e)
	}
	return s
}

func TestP44_1Script(t *testing.T) {
	for flaw, n := range map[uint8]int{1: 8, 2: 7, 3: 8, 4: 3, 5: 7, 6: 8} {
		s := script(t, flaw)
		if scripts.Check(s) != api.OK || len(s.Events) != n || s.Config.Flaw != 0 || s.Config.Budget != 3 || cap(s.Events) != n {
			t.Error(flaw, len(s.Events))
		}
	}
	for _, flaw := range []uint8{0, 7, 255} {
		if s, e := Script(flaw); e != api.ErrArg || len(s.Events) != 0 {
			t.Error(flaw, e)
		}
	}
	text, _ := scripts.Text(script(t, 4))
	want := "config 5 2 1 1 3 0 0\nclient 1 1 6\nschema 5\nnamespace user {\n}\nnamespace doc {\n  relation viewer: [user];\n}\narrive 0 010000010103646f6301780676696577657204757365720161000000000000000000\narrive 0 02000000000103646f6301780676696577657204757365720161000000000000000000\ncollect 1\n"
	if text != want {
		t.Error(text)
	}
}

// told says in words what the events of a script are.
func told(t *testing.T, s scripts.Script) string {
	t.Helper()
	var out []string
	for _, x := range s.Events {
		word := strconv.Itoa(int(x.Kind)) + "." + strconv.Itoa(x.Lane) + "." + strconv.Itoa(int(x.N))
		if x.Kind == api.Arrive {
			r, _, e := requests.Decode(x.Bytes)
			if e != api.OK || x.Client != 0 || r.Rev != 0 || len(r.Musts) > 0 || r.Filter != (api.Filter{}) {
				t.Fatal(r, e)
			}
			switch {
			case r.Kind == api.Ask && len(r.Items) == 1 && r.Items[0].Kind == api.Check && names.GoalText(r.Items[0].Goal) == "doc:x#viewer":
				word = "ask " + names.Text(r.Items[0].User) + " " + strconv.Itoa(int(r.Class))
			case r.Kind == api.Write && len(r.Changes) == 1 && !r.Changes[0].Drop:
				word = "write " + tuples.Text(r.Changes[0].Tuple)
			case r.Kind == api.Read:
				word = "read"
			}
		}
		out = append(out, word)
	}
	return strings.Join(out, ", ")
}

func TestP44_1Events(t *testing.T) {
	const a, write, read = "ask user:a 0", "write doc:x#viewer@user:a", "read, read, read, read, read, read, read"
	for flaw, want := range map[uint8]string{
		1: write + ", " + a + ", 3.0.0, 3.1.0, 3.0.0, 3.1.0, 3.0.0, 3.0.0", 2: a + ", " + write + ", " + a + ", 3.0.0, 3.0.0, 3.0.0, 3.0.0", 3: "2.0.1, " + read, 4: a + ", " + write + ", 7.0.1", 5: read,
		6: a + ", ask user:b 1, ask user:c 0, 3.0.0, 3.0.0, 3.0.0, 3.0.0, 3.0.0",
	} {
		if got := told(t, script(t, flaw)); got != want {
			t.Error(flaw, got)
		}
	}
}

func TestP44_2Tells(t *testing.T) {
	for i, x := range []struct {
		script, flaw uint8
		at           int
		rules        []audits.Rule
		e            api.Errno
	}{
		{1, 1, 7, []audits.Rule{audits.Answer}, 0}, {2, 2, 6, []audits.Rule{audits.Answer}, 0}, {3, 3, 7, []audits.Rule{audits.Admit}, 0}, {4, 4, 2, []audits.Rule{audits.Pinned}, 0}, {4, 0, 0, nil, api.ErrNone}, {5, 5, 6, []audits.Rule{audits.Shed}, 0}, {6, 6, 7, []audits.Rule{audits.Order}, 0}, {4, 5, 0, nil, api.ErrNone}, {4, 7, 0, nil, api.ErrArg}, {4, 255, 0, nil, api.ErrArg},
	} {
		s := script(t, x.script)
		s.Config.Flaw = 3
		if at, rules, e := Tells(s, x.flaw); at != x.at || !slices.Equal(rules, x.rules) || e != x.e {
			t.Error(i, at, rules, e)
		}
	}
	if _, _, e := Tells(scripts.Script{}, 99); e != api.ErrConfig {
		t.Error(e)
	}
}

func TestP44_3MinimalSmaller(t *testing.T) {
	s := script(t, 4)
	more := s
	work := api.Event{Kind: api.Work}
	more.Events = append([]api.Event{{Kind: api.Tick, N: 1}}, append(s.Events, work, work)...)
	more.Config.Flaw = 2
	if ok, e := Minimal(more, 4); ok || e != api.OK {
		t.Error(ok, e)
	}
	small, e := Smaller(more, 4)
	if small.Config.Flaw != 2 || e != api.OK {
		t.Error(e)
	}
	if small.Config.Flaw = 0; !scripts.Same(small, s) {
		t.Error(small.Events)
	}
	for i, x := range []struct {
		s    scripts.Script
		flaw uint8
		e    api.Errno
	}{{scripts.Script{}, 9, api.ErrConfig}, {s, 9, api.ErrArg}, {s, 0, api.ErrNone}, {s, 5, api.ErrNone}} {
		ok, e1 := Minimal(x.s, x.flaw)
		small, e2 := Smaller(x.s, x.flaw)
		if ok || e1 != x.e || e2 != x.e || len(small.Events) != 0 {
			t.Error(i, e1, e2)
		}
	}
}

func TestP44_4Caught(t *testing.T) {
	for flaw, want := range map[uint8][]uint8{4: {4}, 5: {5}} {
		if l, e := Caught(script(t, flaw)); !slices.Equal(l, want) || e != api.OK || cap(l) != len(l) {
			t.Error(flaw, l, e)
		}
	}
	if l, e := Caught(scripts.Script{}); len(l) != 0 || e != api.ErrConfig {
		t.Error(e)
	}
	s := script(t, 4)
	s.Events = nil
	if l, e := Caught(s); len(l) != 0 || e != api.OK {
		t.Error(l, e)
	}
}

func TestP44_5Consequences(t *testing.T) {
	r := rand.New(rand.NewSource(1))
	for flaw := uint8(1); flaw <= Flaws; flaw++ {
		s := script(t, flaw)
		l, _ := Caught(s)
		if !slices.Contains(l, flaw) || slices.Contains(l, 0) {
			t.Error(flaw, l)
		}
		for range 6 {
			more := s
			more.Events = slices.Clone(s.Events)
			for range 4 {
				x := append(slices.Clone(script(t, 6).Events[:4]), script(t, 4).Events[1], api.Event{Kind: api.Work, Lane: 1})[r.Intn(6)]
				more.Events = slices.Insert(more.Events, r.Intn(len(more.Events)+1), x)
			}
			small, e := Smaller(more, flaw)
			if e == api.ErrNone {
				continue
			}
			ok, e2 := Minimal(small, flaw)
			again, _ := Smaller(small, flaw)
			_, _, told := Tells(small, flaw)
			_, _, none := Tells(small, 0)
			if e != api.OK || !ok || e2 != api.OK || told != api.OK || none != api.ErrNone || !scripts.Same(again, small) {
				t.Fatal(flaw, e, ok, e2)
			}
		}
	}
}
