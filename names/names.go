// Package names contains names, and the texts and the order of objects, goals and subjects. See shared/doc/01-names.md.
package names

import (
	"strings"

	"countersign/api"
)

// Check returns the error of a name. (P1.1)
func Check(s string) api.Errno {
	if len(s) < 1 || len(s) > api.MaxName {
		return api.ErrName
	}
	for i := range len(s) {
		if !letter(s[i]) {
			return api.ErrName
		}
	}
	return api.OK
}

func letter(b byte) bool { return 'a' <= b && b <= 'z' || '0' <= b && b <= '9' }

// Object returns the error of an object. (P1.1)
func Object(o api.Object) api.Errno { return checked(o.Space, o.ID) }

// Goal returns the error of a goal. (P1.1)
func Goal(g api.Goal) api.Errno { return checked(g.Object.Space, g.Object.ID, g.Rel) }

// Subject returns the error of a subject. (P1.1)
func Subject(s api.Subject) api.Errno {
	if s.Rel == "" {
		return Object(s.Object)
	}
	return checked(s.Object.Space, s.Object.ID, s.Rel)
}

// checked returns the error of the first string that is no name.
func checked(fields ...string) api.Errno {
	for _, f := range fields {
		if e := Check(f); e != api.OK {
			return e
		}
	}
	return api.OK
}

// Text returns the text of an object. (P1.2)
func Text(o api.Object) string { return o.Space + ":" + o.ID }

// GoalText returns the text of a goal. (P1.2)
func GoalText(g api.Goal) string { return Text(g.Object) + "#" + g.Rel }

// SubjectText returns the text of a subject. (P1.2)
func SubjectText(s api.Subject) string {
	if s.Rel == "" {
		return Text(s.Object)
	}
	return Text(s.Object) + "#" + s.Rel
}

// ParseObject returns the object with a text. (P1.3)
func ParseObject(s string) (api.Object, api.Errno) {
	o, _, marks, e := divide(s)
	if e != api.OK || marks != 0 {
		return api.Object{}, api.ErrForm
	}
	if e := Object(o); e != api.OK {
		return api.Object{}, e
	}
	return o, api.OK
}

// ParseGoal returns the goal with a text. (P1.3)
func ParseGoal(s string) (api.Goal, api.Errno) {
	o, rel, marks, e := divide(s)
	if e != api.OK || marks != 1 {
		return api.Goal{}, api.ErrForm
	}
	g := api.Goal{Object: o, Rel: rel}
	if e := Goal(g); e != api.OK {
		return api.Goal{}, e
	}
	return g, api.OK
}

// ParseSubject returns the subject with a text. (P1.3)
func ParseSubject(s string) (api.Subject, api.Errno) {
	o, rel, marks, e := divide(s)
	if e != api.OK || marks > 1 {
		return api.Subject{}, api.ErrForm
	}
	u := api.Subject{Object: o, Rel: rel}
	// A relation that is announced has to be there, so an empty one is looked at, too.
	if marks == 1 {
		e = Goal(api.Goal{Object: o, Rel: rel})
	} else {
		e = Subject(u)
	}
	if e != api.OK {
		return api.Subject{}, e
	}
	return u, api.OK
}

// divide takes a text apart at its colon and at its first mark "#"; marks is how many of these it has.
func divide(s string) (o api.Object, rel string, marks int, e api.Errno) {
	rest := s
	next := func(end string) string {
		head, tail, _ := strings.Cut(rest, end)
		rest = tail
		return head
	}
	if strings.Count(s, ":") != 1 {
		return o, "", 0, api.ErrForm
	}
	o.Space = next(":")
	if strings.Contains(o.Space, "#") {
		return api.Object{}, "", 0, api.ErrForm
	}
	marks = strings.Count(rest, "#")
	o.ID = next("#")
	return o, rest, marks, api.OK
}

// Compare returns the order of two objects. (P1.4)
func Compare(a, b api.Object) int {
	return compare([2]string{a.Space, b.Space}, [2]string{a.ID, b.ID})
}

// CompareGoal returns the order of two goals. (P1.4)
func CompareGoal(a, b api.Goal) int {
	return compare([2]string{a.Object.Space, b.Object.Space}, [2]string{a.Object.ID, b.Object.ID}, [2]string{a.Rel, b.Rel})
}

// CompareSubject returns the order of two subjects. (P1.4)
func CompareSubject(a, b api.Subject) int {
	return compare([2]string{a.Object.Space, b.Object.Space}, [2]string{a.Object.ID, b.Object.ID}, [2]string{a.Rel, b.Rel})
}

// compare returns the order of the first two fields that differ.
func compare(fields ...[2]string) int {
	for _, f := range fields {
		if c := strings.Compare(f[0], f[1]); c != 0 {
			return c
		}
	}
	return 0
}
