package sample

import (
	"voussoir/api"
	"voussoir/ftext"
	"voussoir/modtext"
)

// Test is what a test is told.
type Test interface {
	Helper()
	Fatalf(format string, args ...any)
}

// Model returns the model of a text, valid or not.
func Model(t Test, s string) api.Module {
	t.Helper()
	m, at, e := modtext.Parse(s)
	if e != api.OK {
		t.Fatalf("%q: %d at %d", s, e, at)
	}
	return m
}

// Formula returns the formula of a text.
func Formula(t Test, s string) api.Form {
	t.Helper()
	f, at, e := ftext.Parse(s)
	if e != api.OK {
		t.Fatalf("%q: %d at %d", s, e, at)
	}
	return f
}
