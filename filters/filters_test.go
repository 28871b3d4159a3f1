package filters

import (
	"slices"
	"strings"
	"testing"

	"countersign/api"
	"countersign/tuples"
)

func list(t *testing.T, texts ...string) []api.Tuple {
	t.Helper()
	var l []api.Tuple
	for _, s := range texts {
		x, e := tuples.Parse(s)
		if e != api.OK {
			t.Fatal(s, e)
		}
		l = append(l, x)
	}
	return l
}

func filter(t *testing.T, s string) api.Filter {
	t.Helper()
	f, e := Parse(s)
	if e != api.OK || Text(f) != s {
		t.Fatal(s, e, Text(f))
	}
	return f
}

func sample(t *testing.T) []api.Tuple {
	return list(t, "a:x#r@u:a", "a:x#r@u:b", "a:y#s@u:a", "b:x#r@u:a")
}

// all returns filters with each combination of some fields.
func all(t *testing.T) []api.Filter {
	var out []api.Filter
	for _, space := range []string{"*", "a", "b", "c"} {
		for _, id := range []string{"*", "x", "x2", "y"} {
			for _, rel := range []string{"*", "r", "s"} {
				for _, u := range []string{"", "@u:a", "@u:b", "@u:a#r"} {
					out = append(out, filter(t, space+":"+id+"#"+rel+u))
				}
			}
		}
	}
	return out
}

func TestP3_1CheckTakesPrefix(t *testing.T) {
	u := api.Subject{Object: api.Object{Space: "u", ID: "a"}}
	for i, x := range []struct {
		f    api.Filter
		want api.Errno
	}{
		{api.Filter{}, 0}, {api.Filter{Subject: u}, api.ErrForm}, {api.Filter{Space: "A", Subject: u}, api.ErrForm}, {api.Filter{Subject: u, Exact: true}, 0},
		{api.Filter{Exact: true}, api.ErrName}, {api.Filter{Space: "A"}, api.ErrName}, {api.Filter{ID: "A"}, api.ErrName}, {api.Filter{Rel: "*"}, api.ErrName},
	} {
		if e := Check(x.f); e != x.want {
			t.Error(i, e)
		}
	}
	for s, want := range map[string]int{"*:x#r@u:a": 0, "a:*#r@u:a": 1, "a:x#*@u:a": 2, "a:x#r": 3, "a:x#r@u:a": 4, "*:*#*": 0} {
		if Prefix(filter(t, s)) != want {
			t.Error(s)
		}
	}
	x := list(t, "a:x#r@u:a")[0]
	for s, want := range map[string]bool{"*:*#*": true, "a:*#*": true, "b:*#*": false, "*:x#*": true, "*:y#*": false, "*:*#r": true, "*:*#s": false, "*:*#*@u:a": true, "*:*#*@u:a#r": false, "a:x#r@u:a": true} {
		if Takes(filter(t, s), x) != want {
			t.Error(s)
		}
	}
	if !Takes(api.Filter{Subject: u}, api.Tuple{}) || !Takes(api.Filter{Exact: true}, api.Tuple{}) {
		t.Error("filters that are not valid")
	}
}

func TestP3_2SpanSelect(t *testing.T) {
	l := sample(t)
	for s, want := range map[string][2]int{"a:x#*": {0, 2}, "a:x2#*": {2, 2}, "*:y#*": {0, 4}, "a:*#*": {0, 3}, "c:*#*": {4, 4}, "a:x#r@u:b": {1, 2}, "a:x#r": {0, 2}, "a:y#r": {2, 2}, "a:y#s": {2, 3}, "a:x#r@u:a#r": {1, 1}} {
		if from, to, e := Span(l, filter(t, s)); e != api.OK || from != want[0] || to != want[1] {
			t.Error(s, from, to, e)
		}
	}
	got, e := Select(l, filter(t, "*:x#r@u:a"))
	if e != api.OK || !slices.Equal(got, []api.Tuple{l[0], l[3]}) || cap(got) != len(got) {
		t.Error(got, e)
	}
	turned := []api.Tuple{l[1], l[0]}
	if from, to, e := Span(turned, api.Filter{}); e != api.ErrOrder || from != 0 || to != 0 {
		t.Error(from, to, e)
	}
	if from, to, e := Span(l, api.Filter{Rel: "R"}); e != api.ErrName || from != 0 || to != 0 {
		t.Error(from, to, e)
	}
	if _, e := Select(turned, api.Filter{Space: "A"}); e != api.ErrName {
		t.Error(e)
	}
}

func TestP3_3Both(t *testing.T) {
	f, some, e := Both(filter(t, "a:*#r"), filter(t, "*:x#*@u:a"))
	if e != api.OK || !some || Text(f) != "a:x#r@u:a" {
		t.Error(f, some, e)
	}
	for _, x := range [][2]string{{"a:*#r", "b:*#*"}, {"*:x#*", "*:y#*"}, {"*:*#r", "*:*#s"}, {"*:*#*@u:a", "*:*#*@u:b"}} {
		if f, some, e := Both(filter(t, x[0]), filter(t, x[1])); e != api.OK || some || f != (api.Filter{}) {
			t.Error(x)
		}
	}
	if _, _, e := Both(api.Filter{Space: "A"}, api.Filter{Subject: api.Subject{Rel: "a"}}); e != api.ErrName {
		t.Error(e)
	}
	if _, _, e := Both(api.Filter{}, api.Filter{Subject: api.Subject{Rel: "a"}}); e != api.ErrForm {
		t.Error(e)
	}
	l := sample(t)
	for _, a := range all(t) {
		for _, b := range all(t) {
			f, some, _ := Both(a, b)
			for _, x := range l {
				if (some && Takes(f, x)) != (Takes(a, x) && Takes(b, x)) {
					t.Fatal(Text(a), Text(b))
				}
			}
		}
	}
}

func TestP3_4TextParse(t *testing.T) {
	form, name := api.ErrForm, api.ErrName
	for s, want := range map[string]api.Errno{"a:x": form, "a:*#A": name, "a:x#r@u": form, "": form, "a#x:r": form, "a:x#r@u:a@u:b": form, "a::x#r": form, "a:x#r#s": form, ":x#r": name, "a:#r": name, "a:x#": name, "A:x#r@u": name, "a:x#r@": form, "a:x#r@u:a#": name, "**:*#*": name} {
		if f, e := Parse(s); e != want || f != (api.Filter{}) {
			t.Error(s, f, e)
		}
	}
	if Text(api.Filter{Space: "A", Exact: true}) != "A:*#*@:" || Text(api.Filter{Subject: api.Subject{Rel: "a"}}) != "*:*#*" {
		t.Error("texts of filters that are not valid")
	}
}

func TestP3_5Consequences(t *testing.T) {
	l := sample(t)
	for _, f := range all(t) {
		from, to, _ := Span(l, f)
		part, _ := Select(l[from:to], f)
		whole, _ := Select(l, f)
		if !slices.Equal(part, whole) || Prefix(f) == 4 && len(whole) > 1 {
			t.Error(Text(f))
		}
		if same, some, e := Both(f, f); e != api.OK || !some || same != f {
			t.Error(Text(f))
		}
	}
	if got, _ := Select(l, api.Filter{}); !slices.Equal(got, l) {
		t.Error("the zero filter")
	}
	if strings.Contains(Text(api.Filter{}), "@") {
		t.Error("no subject")
	}
}
