package copies

import (
	"fmt"
	"testing"

	"countersign/api"
	"countersign/parsers"
)

// equal reports whether two values are equal; lists that are nil and empty are.
func equal(a, b any) bool { return fmt.Sprint(a) == fmt.Sprint(b) }

func TestSchema(t *testing.T) {
	read := func() api.Schema {
		s, _, _ := parsers.Parse("namespace user {} namespace doc { relation a: [user] = (this | b) - b; relation b: [user]; }")
		return s
	}
	s := read()
	c := Schema(s)
	if !equal(s, c) || !equal(Schema(api.Schema{}), api.Schema{}) {
		t.Error("not equal")
	}
	c.Spaces[0].Name, c.Spaces[1].Relations[0].Name = "x", "x"
	c.Spaces[1].Relations[0].Types[0].Space, c.Spaces[1].Relations[0].Rule.Args[0].Args[1].Rel = "x", "x"
	if !equal(s, read()) {
		t.Error("shared")
	}
}
