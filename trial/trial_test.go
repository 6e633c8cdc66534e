package trial_test

import (
	"math/rand"
	"testing"

	"voussoir/api"
	"voussoir/dd"
	"voussoir/trial"
)

// failure takes the place of a test that is to fail.
type failure struct{ told int }

// end is what a failure that is fatal ends with.
type end struct{}

func (f *failure) Helper()               {}
func (f *failure) Errorf(string, ...any) { f.told++ }
func (f *failure) Fatal(...any)          { panic(end{}) }
func (f *failure) Fatalf(string, ...any) { panic(end{}) }

// fails checks that what is done in a world fails.
func fails(t *testing.T, about string, vars int, do func(w *trial.World)) {
	t.Helper()
	f := &failure{}
	defer func() {
		t.Helper()
		switch ended := recover().(type) {
		case nil:
			if f.told == 0 {
				t.Error(about)
			}
		case end:
		default:
			panic(ended)
		}
	}()
	do(trial.New(f, rand.New(rand.NewSource(1)), vars, 500))
}

func TestTables(t *testing.T) {
	r := rand.New(rand.NewSource(2))
	for vars := range 7 {
		w := trial.New(t, r, vars, trial.Enough(vars, 3))
		for range 50 {
			values := w.Some()
			h := w.Handle(values)
			w.Disturb()
			if got := w.Table(h); got != values || values&^w.All() != 0 {
				t.Fatalf("%x; want %x", got, values)
			}
			for v := range vars {
				sensitive := false
				for i := range 1 << vars {
					if w.Variable(v)>>i&1 == 1 != w.Assignment(i)[v] {
						t.Fatal(v, w.Variable(v))
					}
					sensitive = sensitive || values>>i&1 != values>>(i^1<<v)&1
					for value, cut := range []uint64{trial.Cofactor(values, v, 0), trial.Cofactor(values, v, 1)} {
						l := w.Assignment(i)
						l[v] = value == 1
						if yes, _ := w.M.Eval(h, l); yes != (cut>>i&1 == 1) {
							t.Fatal(values, v, value, cut)
						}
					}
				}
				if trial.Depends(values, v) != sensitive {
					t.Fatal(values, v)
				}
			}
			w.DropAll()
			if w.M.Is(h) || w.M.Handles() != 2 {
				t.Fatal("handles are left")
			}
		}
	}
}

func TestEnough(t *testing.T) {
	for _, x := range [][3]int{{0, 2, 44}, {1, 0, 80}, {3, 5, 256 + 416}, {10, 2, api.MaxRoom}} {
		if got := trial.Enough(x[0], x[1]); got != x[2] {
			t.Error(x, got)
		}
	}
}

func TestWhatFails(t *testing.T) {
	fails(t, "no manager", 65, func(w *trial.World) {})
	fails(t, "no handle", 2, func(w *trial.World) { w.Right(2, api.OK) })
	fails(t, "an error", 2, func(w *trial.World) { w.Right(w.Handle(1), api.ErrRoom) })
	fails(t, "a constant", 2, func(w *trial.World) { w.Right(1, api.OK) })
	fails(t, "no handle", 2, func(w *trial.World) { w.Table(9) })
	fails(t, "another function", 2, func(w *trial.World) { w.Has("", 7)(w.M.Do(nil)) })
	fails(t, "another function", 2, func(w *trial.World) {
		h := w.Handle(6)
		w.Has("", 7)(w.M.Copy(h))
	})
	fails(t, "one handle more", 2, func(w *trial.World) {
		check := w.Has("", 7)
		w.Handle(7)
		check(w.Handle(7), api.OK)
	})
	fails(t, "another answer", 2, func(w *trial.World) { w.Asks("", true)(false, api.OK) })
	fails(t, "an error", 2, func(w *trial.World) { w.Asks("", true)(true, api.ErrRoom) })
	fails(t, "one handle more", 2, func(w *trial.World) {
		check := w.Asks("", true)
		w.Handle(7)
		check(true, api.OK)
	})
	fails(t, "no error", 2, func(w *trial.World) { w.Fails("", api.ErrVar)(0, api.OK) })
	fails(t, "a handle", 2, func(w *trial.World) { w.Fails("", api.ErrVar)(1, api.ErrVar) })
	fails(t, "one handle more", 2, func(w *trial.World) {
		check := w.Fails("", api.ErrVar)
		w.Handle(7)
		check(0, api.ErrVar)
	})
	fails(t, "not the same", 2, func(w *trial.World) { w.Same("", 0, 1) })
	fails(t, "no handle", 2, func(w *trial.World) { w.Same("", 9, 9) })
}

func TestLittleRoom(t *testing.T) {
	r := rand.New(rand.NewSource(3))
	ite := func(m *dd.Man, f, g int) (int, api.Errno) { return m.Ite(f, g, 0) }
	trial.LittleRoom(t, r, ite)
	for about, op := range map[string]func(m *dd.Man, f, g int) (int, api.Errno){
		"never fails":   func(m *dd.Man, f, g int) (int, api.Errno) { return m.Copy(f) },
		"always fails":  func(m *dd.Man, f, g int) (int, api.Errno) { return 0, api.ErrRoom },
		"another error": func(m *dd.Man, f, g int) (int, api.Errno) { return m.Copy(99) },
		"drops a handle": func(m *dd.Man, f, g int) (int, api.Errno) {
			m.Drop(g)
			return 0, api.ErrRoom
		},
	} {
		fails(t, about, 0, func(w *trial.World) { trial.LittleRoom(w.T, r, op) })
	}
}
