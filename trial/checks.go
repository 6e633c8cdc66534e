package trial

import (
	"voussoir/api"
	"voussoir/dd"
)

// Right returns h, which e tells to be a handle that is not one of the constants'.
func (w *World) Right(h int, e api.Errno) int {
	w.T.Helper()
	if e != api.OK || h < 2 || !w.M.Is(h) {
		w.T.Fatalf("handle %d, %d", h, e)
	}
	return h
}

// Has checks that a call has returned a new handle of the function with that table, and drops the handle.
func (w *World) Has(about string, values uint64) func(h int, e api.Errno) {
	handles := w.M.Handles()
	return func(h int, e api.Errno) {
		w.T.Helper()
		w.Right(h, e)
		if got := w.Table(h); got != values&w.All() || w.M.Handles() != handles+1 {
			w.T.Fatalf("%s: %x, and %d handles; want %x, and %d handles", about, got, w.M.Handles(), values&w.All(), handles+1)
		}
		w.M.Drop(h)
	}
}

// Asks checks that a call has answered so, and that it has left no handle.
func (w *World) Asks(about string, want bool) func(yes bool, e api.Errno) {
	handles := w.M.Handles()
	return func(yes bool, e api.Errno) {
		w.T.Helper()
		if yes != want || e != api.OK || w.M.Handles() != handles {
			w.T.Fatalf("%s: %v, %d, and %d handles; want %v, and %d handles", about, yes, e, w.M.Handles(), want, handles)
		}
	}
}

// Fails checks that a call has failed with that error, and that it has left no handle.
func (w *World) Fails(about string, want api.Errno) func(h int, e api.Errno) {
	handles := w.M.Handles()
	return func(h int, e api.Errno) {
		w.T.Helper()
		if h != 0 || e != want || w.M.Handles() != handles {
			w.T.Errorf("%s: %d, %d, and %d handles; want %d, and %d handles", about, h, e, w.M.Handles(), want, handles)
		}
	}
}

// Same checks that two handles denote the same function.
func (w *World) Same(about string, f, g int) {
	w.T.Helper()
	if yes, e := w.M.Same(f, g); !yes || e != api.OK {
		w.T.Fatalf("%s: %d and %d are not the same, %d", about, f, g, e)
	}
}

// Keeps checks that there are no handles but those of the constants and these, and that they denote the functions with these tables.
func (w *World) Keeps(tables []uint64, handles []int) {
	w.T.Helper()
	if w.M.Handles() != 2+len(handles) {
		w.T.Fatalf("%d handles; want %d", w.M.Handles(), 2+len(handles))
	}
	for i, h := range handles {
		if got := w.Table(h); got != tables[i] {
			w.T.Fatalf("handle %d: %x; want %x", h, got, tables[i])
		}
	}
}

// LittleRoom calls operations on two functions of five variables that hardly find room. It checks that a call has failed for that, or has not failed, and has left everything else as it was; there must be enough of both.
func LittleRoom(t Test, r Random, ops ...func(m *dd.Man, f, g int) (int, api.Errno)) {
	t.Helper()
	failed, done := 0, 0
	for range 500 {
		w, tables, handles := Tight(t, r, 5+r.Intn(4))
		for _, op := range ops {
			switch h, e := op(w.M, handles[0], handles[1]); {
			case e == api.OK:
				done++
				w.M.Drop(h)
			case e != api.ErrRoom || h != 0:
				t.Fatal(h, e)
			default:
				failed++
			}
			w.Keeps(tables[:], handles[:])
		}
	}
	if failed < 20 || done < 100 {
		t.Errorf("%d calls have failed, and %d have not", failed, done)
	}
}
