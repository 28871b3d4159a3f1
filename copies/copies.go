// Package copies copies schemas, for what keeps one.
package copies

import (
	"slices"

	"countersign/api"
)

// Schema returns an equal schema in new memory. Its rules are as deep as their levels, so it has to be one that was looked at.
func Schema(s api.Schema) api.Schema {
	s.Spaces = slices.Clone(s.Spaces)
	for i, x := range s.Spaces {
		relations := slices.Clone(x.Relations)
		for j, r := range relations {
			relations[j].Types, relations[j].Rule = slices.Clone(r.Types), rule(r.Rule)
		}
		s.Spaces[i].Relations = relations
	}
	return s
}

func rule(r api.Rule) api.Rule {
	r.Args = slices.Clone(r.Args)
	for i, x := range r.Args {
		r.Args[i] = rule(x)
	}
	return r
}
