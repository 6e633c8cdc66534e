package sample

import (
	"voussoir/api"
	"voussoir/ftext"
	"voussoir/modtext"
)

// Chain is the text of a model of 4097 states, one more than frontiers are listed. Each but the last one has a transition to the next one only: c is true in the last one, and the number of each other one is 64 * a + b.
const Chain = "var c : bool; var a : 0 .. 63; var b : 0 .. 63; invar c -> a = 0 & b = 0; next c := a = 63 & b = 63; next a := if b < 63 then a else if a < 63 then a + 1 else 0; next b := if b < 63 then b + 1 else 0; trans !c;"

// Test is what a test is told.
type Test interface {
	Helper()
	Fatalf(format string, args ...any)
}

// Model returns the model of a text, valid or not.
func Model(t Test, s string) api.Module {
	t.Helper()
	m, at, e := modtext.Parse(s)
	if e != api.OK {
		t.Fatalf("%q: %d at %d", s, e, at)
	}
	return m
}

// Formula returns the formula of a text.
func Formula(t Test, s string) api.Form {
	t.Helper()
	f, at, e := ftext.Parse(s)
	if e != api.OK {
		t.Fatalf("%q: %d at %d", s, e, at)
	}
	return f
}
