// Package leaves tells what the leaves of goals are about, by tuples that fit a schema. It is what models and reaches have in common.
package leaves

import (
	"slices"

	"countersign/api"
	"countersign/fits"
	"countersign/names"
	"countersign/tables"
)

// relation names one.
type relation struct{ space, rel string }

// World is a valid schema with tuples that fit; it never changes.
type World struct {
	Tables   *tables.Tables
	rows     map[relation]tables.Table
	subjects map[api.Goal][]api.Subject // of the tuples with a goal, in order, each once
}

// Leaf is what a leaf of a goal is about: some users, and all of some goals.
type Leaf struct {
	Users []api.Object
	Goals []api.Goal
}

// New returns a world of a schema and tuples in any order: the error of fits.All.
func New(s api.Schema, l []api.Tuple) (World, api.Errno) {
	if _, e := fits.All(s, l); e != api.OK {
		return World{}, e
	}
	t, e := tables.Of(s)
	if e != api.OK {
		return World{}, e
	}
	w := World{t, map[relation]tables.Table{}, map[api.Goal][]api.Subject{}}
	for n := range t.Many() {
		x, e := t.At(n)
		if e != api.OK {
			return World{}, e
		}
		w.rows[relation{x.Space, x.Rel}] = x
	}
	for _, x := range l {
		at, found := slices.BinarySearchFunc(w.subjects[x.Goal], x.Subject, names.CompareSubject)
		if !found {
			w.subjects[x.Goal] = slices.Insert(w.subjects[x.Goal], at, x.Subject)
		}
	}
	return w, api.OK
}

// Declared reports whether a goal is declared.
func Declared(t *tables.Tables, g api.Goal) bool {
	return names.Goal(g) == api.OK && t.Has(g.Object.Space, g.Rel)
}

// Table returns the table of the relation of a declared goal; it is shared, and must not be changed.
func (w World) Table(g api.Goal) tables.Table {
	return w.rows[relation{g.Object.Space, g.Rel}]
}

// Of returns the leaves of a declared goal, in order.
func (w World) Of(g api.Goal) []Leaf {
	var out []Leaf
	for _, n := range w.Table(g).Nodes {
		switch n.Kind {
		case api.This:
			out = append(out, w.this(g))
		case api.Computed:
			out = append(out, Leaf{Goals: []api.Goal{{Object: g.Object, Rel: n.Rel}}})
		case api.Arrow:
			out = append(out, w.arrow(g.Object, n))
		}
	}
	return slices.Clip(out)
}

// this returns the leaf that the tuples of a goal are.
func (w World) this(g api.Goal) (x Leaf) {
	for _, u := range w.subjects[g] {
		if u.Rel == "" {
			x.Users = append(x.Users, u.Object)
		} else {
			x.Goals = append(x.Goals, api.Goal(u))
		}
	}
	return x
}

// arrow returns the leaf that an Arrow of an object is.
func (w World) arrow(o api.Object, n tables.Node) (x Leaf) {
	for _, u := range w.subjects[api.Goal{Object: o, Rel: n.Rel}] {
		if u.Rel == "" && slices.Contains(n.Spaces, u.Object.Space) {
			x.Goals = append(x.Goals, api.Goal{Object: u.Object, Rel: n.To})
		}
	}
	return x
}

// Together returns all objects of some sets, in order, each once.
func Together(sets ...[]api.Object) []api.Object {
	all := slices.Concat(sets...)
	slices.SortFunc(all, names.Compare)
	return slices.Clip(slices.Compact(all))
}
