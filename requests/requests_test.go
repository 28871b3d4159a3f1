package requests

import (
	"bytes"
	"fmt"
	"math"
	"math/rand"
	"slices"
	"strconv"
	"strings"
	"testing"

	"countersign/api"
	"countersign/parsers"
)

// equal reports whether two values are equal; lists that are nil and empty are.
func equal(a, b any) bool { return fmt.Sprint(a) == fmt.Sprint(b) }

const sample = "namespace user {} namespace doc { relation owner: [user]; relation viewer: [user, doc#owner] = this | owner; }"

func parsedSchema(t *testing.T, text string) api.Schema {
	t.Helper()
	s, _, e := parsers.Parse(text)
	if e != api.OK {
		t.Fatal(e)
	}
	return s
}

var (
	user  = api.Object{Space: "user", ID: "a"}
	goal  = api.Goal{Object: api.Object{Space: "doc", ID: "x"}, Rel: "viewer"}
	tuple = api.Tuple{Goal: goal, Subject: api.Subject{Object: user}}
	check = api.Query{Kind: api.Check, Goal: goal, User: user}
)

func ask(l ...api.Query) api.Request { return api.Request{Kind: api.Ask, Items: l} }

// requests are some that can be encoded.
func some() []api.Request {
	return []api.Request{
		{}, {Kind: 255, Class: 255, Rev: math.MaxUint64}, {Kind: 3, Filter: api.Filter{Space: "a"}}, ask(check, check, api.Query{Kind: 9}), {Kind: 2, Musts: []api.Must{{Tuple: tuple, Not: true}}, Changes: []api.Change{{Tuple: tuple}, {Drop: true}}},
		{Kind: 3, Rev: 5, Filter: api.Filter{Space: "a", ID: "B", Rel: "0123456789abcdef", Subject: tuple.Subject, Exact: true}}, {Items: make([]api.Query, 8), Musts: make([]api.Must, 32), Changes: make([]api.Change, 32)},
	}
}

func TestP38_1EncodeDecode(t *testing.T) {
	read := api.Request{Kind: 3, Filter: api.Filter{Space: "a"}}
	b, e := Encode(read)
	if e != api.OK || !bytes.Equal(b, []byte{3, 0, 0, 0, 0, 0, 1, 97, 0, 0, 0, 0, 0, 0}) || cap(b) != 14 {
		t.Error(b, e)
	}
	for i, x := range []struct {
		b  []byte
		at int
		e  api.Errno
	}{
		{b, 0, 0}, {append(slices.Clone(b), 7), 14, api.ErrForm}, {b[:13], 13, api.ErrShort}, {[]byte{1, 0, 0, 9}, 3, api.ErrLimit}, {[]byte{1, 0, 0, 0, 33}, 4, api.ErrLimit}, {[]byte{1, 0, 0, 0, 0, 33}, 5, api.ErrLimit}, {[]byte{128, 2}, 0, api.ErrForm}, {make([]byte, 65537), 0, api.ErrLimit}, {make([]byte, 65536), 13, api.ErrForm},
		{[]byte{3, 0, 0, 0, 0, 0, 17}, 6, api.ErrLimit}, {nil, 0, api.ErrShort}, {[]byte{3, 0, 0, 0, 0, 0, 0, 0, 0, 0, 0, 0, 2}, 12, api.ErrForm},
	} {
		r, at, e := Decode(x.b)
		if at != x.at || e != x.e || e == api.OK && !Same(r, read) || e != api.OK && !Same(r, api.Request{}) {
			t.Error(i, at, e)
		}
	}
	long := strings.Repeat("x", 17)
	for i, change := range []func(r *api.Request){
		func(r *api.Request) { r.Items = make([]api.Query, 9) }, func(r *api.Request) { r.Musts = make([]api.Must, 33) }, func(r *api.Request) { r.Changes = make([]api.Change, 33) }, func(r *api.Request) { r.Items = []api.Query{{User: api.Object{ID: long}}} }, func(r *api.Request) { r.Items = []api.Query{{Goal: api.Goal{Rel: long}}} },
		func(r *api.Request) { r.Musts = []api.Must{{Tuple: api.Tuple{Subject: api.Subject{Rel: long}}}} }, func(r *api.Request) { r.Changes = []api.Change{{Tuple: api.Tuple{Goal: api.Goal{Rel: long}}}} }, func(r *api.Request) { r.Filter.Rel = long }, func(r *api.Request) { r.Filter.Subject.Object.Space = long },
	} {
		var r api.Request
		change(&r)
		if b, e := Encode(r); e != api.ErrLimit || len(b) != 0 {
			t.Error(i, e)
		}
	}
}

func TestP38_2RightUnits(t *testing.T) {
	s := parsedSchema(t, sample)
	expand := api.Query{Kind: api.Expand, Goal: goal}
	wrong := tuple
	wrong.Subject.Rel = "owner"
	none := tuple
	none.Goal.Rel = "none"
	upper := tuple
	upper.Goal.Object.ID = "X"
	change := func(l ...api.Tuple) (out []api.Change) {
		for _, x := range l {
			out = append(out, api.Change{Tuple: x})
		}
		return out
	}
	must := func(l ...api.Tuple) (out []api.Must) {
		for _, x := range l {
			out = append(out, api.Must{Tuple: x})
		}
		return out
	}
	both := expand
	both.User = user
	bad := check
	bad.User.ID = "A"
	filter := api.Filter{Space: "a"}
	for i, x := range []struct {
		r api.Request
		e api.Errno
	}{
		{api.Request{}, api.ErrKind}, {api.Request{Kind: 4, Class: 9}, api.ErrKind}, {ask(check, expand), 0}, {api.Request{Kind: 1, Class: 1, Rev: 9, Items: []api.Query{check}}, 0}, {api.Request{Kind: 1, Class: 2}, api.ErrRange}, {ask(), api.ErrEmpty}, {ask(make([]api.Query, 9)...), api.ErrLimit}, {ask(make([]api.Query, 8)...), api.ErrKind},
		{api.Request{Kind: 1, Class: 9, Musts: must(tuple)}, api.ErrForm}, {api.Request{Kind: 1, Changes: change(tuple)}, api.ErrForm}, {api.Request{Kind: 1, Filter: filter}, api.ErrForm}, {ask(check, api.Query{Kind: 1, Goal: none.Goal, User: user}), api.ErrName}, {ask(api.Query{Kind: 1, Goal: upper.Goal, User: user}), api.ErrName}, {ask(bad), api.ErrName}, {ask(both), api.ErrForm},
		{api.Request{Kind: 2}, 0}, {api.Request{Kind: 2, Class: 1}, api.ErrForm}, {api.Request{Kind: 2, Rev: 1}, api.ErrForm}, {api.Request{Kind: 2, Items: []api.Query{check}}, api.ErrForm}, {api.Request{Kind: 2, Filter: filter}, api.ErrForm}, {api.Request{Kind: 2, Musts: must(tuple), Changes: change(tuple)}, 0},
		{api.Request{Kind: 2, Musts: make([]api.Must, 33)}, api.ErrLimit}, {api.Request{Kind: 2, Musts: must(api.Tuple{}), Changes: make([]api.Change, 33)}, api.ErrLimit}, {api.Request{Kind: 2, Musts: must(wrong), Changes: change(none)}, api.ErrType}, {api.Request{Kind: 2, Musts: must(tuple), Changes: change(none)}, api.ErrName}, {api.Request{Kind: 2, Changes: change(upper)}, api.ErrName},
		{api.Request{Kind: 3}, 0}, {api.Request{Kind: 3, Rev: 7, Filter: filter}, 0}, {api.Request{Kind: 3, Class: 1}, api.ErrForm}, {api.Request{Kind: 3, Items: []api.Query{check}}, api.ErrForm}, {api.Request{Kind: 3, Musts: must(tuple)}, api.ErrForm}, {api.Request{Kind: 3, Filter: api.Filter{Space: "A"}}, api.ErrName}, {api.Request{Kind: 3, Filter: api.Filter{Subject: tuple.Subject}}, api.ErrForm},
	} {
		if e := Right(s, 2, x.r); e != x.e {
			t.Error(i, e)
		}
		if Right(parsedSchema(t, "namespace a { relation b; }"), 2, x.r) != api.ErrType {
			t.Error(i, "a schema that is not closed")
		}
	}
	if e := Right(s, 1, api.Request{Kind: 2, Musts: slices.Repeat(must(tuple), 32), Changes: slices.Repeat(change(tuple), 32)}); e != api.OK {
		t.Error("the most musts and changes", e)
	}
	if e := Right(s, 1, ask(slices.Repeat([]api.Query{check}, 8)...)); e != api.OK {
		t.Error("the most items", e)
	}
	if e := Right(parsedSchema(t, "namespace doc { relation viewer: [doc] = this - viewer; }"), 1, ask(check)); e != api.OK {
		t.Error("a closed schema is enough", e)
	}
	if Right(s, 0, ask(check)) != api.ErrRange || Right(s, -5, ask(check)) != api.ErrRange {
		t.Error("no classes")
	}
	if Units(ask(check, check)) != 2 || Units(ask()) != 0 || Units(api.Request{Items: make([]api.Query, 5)}) != 1 || Units(ask(make([]api.Query, 99)...)) != 99 {
		t.Error("Units")
	}
}

// replies are valid ones, with their texts.
func replies() map[string]api.Reply {
	other := tuple
	other.Goal.Object.ID = "y"
	return map[string]api.Reply{
		"3.1 2 answer 7 yes": {Ticket: 3, Item: 1, Client: 2, Kind: 1, Rev: 7, Yes: true}, "3.0 0 answer 1 no": {Ticket: 3, Kind: 1, Rev: 1}, "-1.0 -1 drained 0": {Ticket: -1, Client: -1, Kind: 11}, "5.0 0 shed 0 -1": {Ticket: 5, Kind: 8, After: -1}, "5.0 0 shed 9 12": {Ticket: 5, Kind: 8, Rev: 9, After: 12}, "5.0 0 shed 9 0": {Ticket: 5, Kind: 8, Rev: 9},
		"0.0 1 listed 2 a:b c:d": {Client: 1, Kind: 2, Rev: 2, Users: []api.Object{{Space: "a", ID: "b"}, {Space: "c", ID: "d"}}}, "0.7 15 listed 2": {Client: 15, Item: 7, Kind: 2, Rev: 2}, "2147483647.0 0 wrote 18446744073709551615": {Ticket: 1<<31 - 1, Kind: 3, Rev: math.MaxUint64}, "0.0 0 failed 3": {Kind: 4, Rev: 3},
		"0.0 0 told 3 doc:x#viewer@user:a doc:y#viewer@user:a": {Kind: 5, Rev: 3, Tuples: []api.Tuple{tuple, other}}, "0.0 0 told 1": {Kind: 5, Rev: 1}, "1.0 0 malformed 0": {Ticket: 1, Kind: 6}, "1.0 0 unknown 5": {Ticket: 1, Kind: 7, Rev: 5}, "1.0 0 draining 0": {Ticket: 1, Kind: 9}, "1.3 0 budget 4": {Ticket: 1, Item: 3, Kind: 10, Rev: 4},
	}
}

func TestP38_3Replies(t *testing.T) {
	b, e := EncodeReply(api.Reply{Ticket: -1, Client: 2, Kind: 1, Yes: true, After: 300})
	if e != api.OK || !bytes.Equal(b, []byte{255, 255, 255, 255, 255, 255, 255, 255, 255, 1, 0, 2, 1, 0, 1, 0, 0, 172, 2}) {
		t.Error(b, e)
	}
	for i, x := range []struct {
		b  []byte
		at int
		e  api.Errno
	}{{b, 0, 0}, {b[:18], 18, api.ErrShort}, {append(slices.Clone(b), 0), 19, api.ErrForm}, {make([]byte, 1<<20+1), 0, api.ErrLimit}, {make([]byte, 1<<20), 9, api.ErrForm}, {[]byte{0, 0, 0, 1, 0, 0, 129, 32}, 6, api.ErrLimit}, {[]byte{0, 0, 0, 1, 0, 0, 0, 129, 32}, 7, api.ErrLimit}} {
		if r, at, e := DecodeReply(x.b); at != x.at || e != x.e || e != api.OK && !SameReply(r, api.Reply{}) {
			t.Error(i, at, e)
		}
	}
	long := strings.Repeat("x", 17)
	for i, r := range []api.Reply{{Users: make([]api.Object, 4097)}, {Tuples: make([]api.Tuple, 4097)}, {Users: []api.Object{{ID: long}}}, {Tuples: []api.Tuple{{Goal: api.Goal{Rel: long}}}}} {
		if b, e := EncodeReply(r); e != api.ErrLimit || len(b) != 0 {
			t.Error(i, e)
		}
	}
	full := api.Reply{Tuples: make([]api.Tuple, 4096), Users: make([]api.Object, 4096)}
	for i := range full.Tuples {
		s := "0123456789abcdef"
		full.Users[i] = api.Object{Space: s, ID: s}
		full.Tuples[i] = api.Tuple{Goal: api.Goal{Object: full.Users[i], Rel: s}, Subject: api.Subject{Object: full.Users[i], Rel: s}}
	}
	if b, e := EncodeReply(full); e != api.OK || len(b) < 500000 {
		t.Error(e)
	}
}

func TestP38_4CheckReplyTextParse(t *testing.T) {
	for want, r := range replies() {
		s, e := Text(r)
		back, e2 := Parse(want)
		if CheckReply(r) != api.OK || s != want || e != api.OK || e2 != api.OK || !SameReply(back, r) {
			t.Error(want, s, e, e2)
		}
	}
	users := func(l ...string) (out []api.Object) {
		for _, s := range l {
			out = append(out, api.Object{Space: s, ID: s})
		}
		return out
	}
	for i, x := range []struct {
		r api.Reply
		e api.Errno
	}{
		{api.Reply{Ticket: -5}, api.ErrKind}, {api.Reply{Kind: 12}, api.ErrKind}, {api.Reply{Kind: 11}, api.ErrRange}, {api.Reply{Kind: 11, Ticket: -1}, api.ErrRange}, {api.Reply{Kind: 11, Client: -1}, api.ErrRange}, {api.Reply{Kind: 1, Ticket: -1}, api.ErrRange}, {api.Reply{Kind: 1, Ticket: 1 << 31}, api.ErrRange}, {api.Reply{Kind: 1, Client: 16}, api.ErrRange}, {api.Reply{Kind: 1, Client: -1}, api.ErrRange},
		{api.Reply{Kind: 1, Item: 8}, api.ErrRange}, {api.Reply{Kind: 1, Item: -1}, api.ErrRange}, {api.Reply{Kind: 3, Item: 1}, api.ErrRange}, {api.Reply{Kind: 10, Item: 1}, 0}, {api.Reply{Kind: 6, Rev: 1}, api.ErrRange}, {api.Reply{Kind: 9, Rev: 1}, api.ErrRange}, {api.Reply{Kind: 11, Rev: 1, Ticket: -1, Client: -1}, api.ErrRange}, {api.Reply{Kind: 8, After: -2}, api.ErrRange}, {api.Reply{Kind: 1, After: -2, Users: users("a")}, api.ErrRange},
		{api.Reply{Kind: 2, Yes: true}, api.ErrForm}, {api.Reply{Kind: 1, Users: users("A")}, api.ErrForm}, {api.Reply{Kind: 2, Tuples: make([]api.Tuple, 1)}, api.ErrForm}, {api.Reply{Kind: 1, After: 1}, api.ErrForm}, {api.Reply{Kind: 2, Users: make([]api.Object, 4097)}, api.ErrLimit}, {api.Reply{Kind: 5, Tuples: make([]api.Tuple, 4097)}, api.ErrLimit},
		{api.Reply{Kind: 2, Users: users("b", "A")}, api.ErrName}, {api.Reply{Kind: 2, Users: users("b", "a", "A")}, api.ErrOrder}, {api.Reply{Kind: 2, Users: users("b", "b")}, api.ErrOrder}, {api.Reply{Kind: 5, Tuples: []api.Tuple{tuple, tuple}}, api.ErrOrder}, {api.Reply{Kind: 5, Tuples: make([]api.Tuple, 1)}, api.ErrName},
	} {
		s, e := Text(x.r)
		if CheckReply(x.r) != x.e || e != x.e || e != api.OK && s != "" {
			t.Error(i, e)
		}
	}
	most := api.Reply{Kind: 2}
	for i := range 4096 {
		most.Users = append(most.Users, api.Object{Space: "u", ID: strconv.Itoa(10000 + i)})
	}
	s, e := Text(most)
	if back, e2 := Parse(s); e != api.OK || e2 != api.OK || !SameReply(back, most) || cap(back.Users) != 4096 {
		t.Error(e, e2)
	}
	for _, s := range []string{"", "3.1 2 answer 7 maybe", "03.1 2 answer 7 yes", "0.0 1 listed 2 c:d a:b", "3.1 2 answer 7", "3.1 2 answer 7 yes ", " 3.1 2 answer 7 yes", "3.1  2 answer 7 yes", "3.1 2 Answer 7 yes", "3.1 2  7 yes", "+3.1 2 answer 7 yes", "3.1 2 answer 7 yes no", "3 2 answer 7 yes", "3.1.1 2 answer 7 yes", "3.1 2 answer 18446744073709551616 yes", "5.0 0 shed 0", "5.0 0 shed 0 -2", "5.0 0 shed 0 1 1", "0.0 1 listed 2 a:b ", "0.0 0 told 3 x", "0.0 0 wrote 3 3", "3.1 2 answer 7 yes\n", "x.y z answer 1 no", strings.Repeat(" ", 1<<20+1)} {
		if r, e := Parse(s); e != api.ErrForm || !SameReply(r, api.Reply{}) {
			t.Error(s, e)
		}
	}
}

func TestP38_5Same(t *testing.T) {
	r := some()
	for i := range r {
		for j := range r {
			if Same(r[i], r[j]) != (i == j) {
				t.Error(i, j)
			}
		}
	}
	all := replies()
	for a := range all {
		for b := range all {
			if SameReply(all[a], all[b]) != (a == b) {
				t.Error(a, b)
			}
		}
	}
	for i, change := range []func(r *api.Request){
		func(r *api.Request) { r.Kind++ }, func(r *api.Request) { r.Class++ }, func(r *api.Request) { r.Rev++ }, func(r *api.Request) { r.Items = []api.Query{check} }, func(r *api.Request) { r.Musts = make([]api.Must, 1) }, func(r *api.Request) { r.Changes = make([]api.Change, 1) }, func(r *api.Request) { r.Filter.Exact = true },
	} {
		r := some()[4]
		r.Musts, r.Changes = slices.Clone(r.Musts), slices.Clone(r.Changes)
		if change(&r); Same(r, some()[4]) {
			t.Error(i)
		}
	}
	for i, change := range []func(r *api.Reply){
		func(r *api.Reply) { r.Ticket++ }, func(r *api.Reply) { r.Item++ }, func(r *api.Reply) { r.Client++ }, func(r *api.Reply) { r.Kind++ }, func(r *api.Reply) { r.Rev++ }, func(r *api.Reply) { r.Yes = true }, func(r *api.Reply) { r.Users = []api.Object{user} }, func(r *api.Reply) { r.Tuples = []api.Tuple{tuple} }, func(r *api.Reply) { r.After++ },
	} {
		var r api.Reply
		if change(&r); SameReply(r, api.Reply{}) {
			t.Error(i)
		}
	}
	if !Same(api.Request{}, api.Request{Items: []api.Query{}, Musts: []api.Must{}}) || !SameReply(api.Reply{}, api.Reply{Users: []api.Object{}, Tuples: []api.Tuple{}}) {
		t.Error("empty lists")
	}
}

func TestP38_6Consequences(t *testing.T) {
	for i, r := range some() {
		b, e := Encode(r)
		back, at, e2 := Decode(b)
		again, _ := Encode(back)
		if e != api.OK || e2 != api.OK || at != 0 || !Same(back, r) || !bytes.Equal(again, b) {
			t.Error(i, e, e2)
		}
		for n := range b {
			if _, at, e := Decode(b[:n]); at != n || e != api.ErrShort {
				t.Error(i, n, at, e)
			}
		}
	}
	for s, r := range replies() {
		b, _ := EncodeReply(r)
		back, _, e := DecodeReply(b)
		if e != api.OK || !SameReply(back, r) || !equal(r, back) {
			t.Error(s, e)
		}
	}
	x := rand.New(rand.NewSource(1))
	for range 20000 {
		b := make([]byte, x.Intn(20))
		for i := range b {
			b[i] = byte(x.Intn(4))
		}
		if r, _, e := Decode(b); e == api.OK {
			if again, e := Encode(r); e != api.OK || !bytes.Equal(again, b) {
				t.Fatal(b)
			}
		}
	}
	s := parsedSchema(t, sample)
	for classes := 1; classes < 5; classes++ {
		for class := range uint8(5) {
			r := ask(check)
			r.Class = class
			if Right(s, classes, r) == api.OK && (Right(s, classes+1, r) != api.OK || Units(r) < 1) {
				t.Error(strconv.Itoa(classes))
			}
		}
	}
}
