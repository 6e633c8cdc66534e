package trial

import "slices"

// Size returns the number of nodes of the functions with these tables together in that order: as many as there are functions, of which a function and its negation count once, among those obtained by fixing the first variables. The tables are those of six variables.
func Size(order []int, tables ...uint64) (n int) {
	for _, v := range order {
		met := map[uint64]bool{}
		var next []uint64
		for _, values := range tables {
			if Depends(values, v) {
				met[min(values, ^values)] = true
			}
			next = append(next, Cofactor(values, v, 0), Cofactor(values, v, 1))
		}
		slices.Sort(next)
		tables = slices.Compact(next)
		n += len(met)
	}
	return n
}

// Spread returns the tables of six variables that have the values of those for the variables of w.
func (w *World) Spread(tables ...uint64) (wide []uint64) {
	for _, values := range tables {
		for v := w.M.Vars(); v < mostVars; v++ {
			values |= values << (1 << v)
		}
		wide = append(wide, values)
	}
	return wide
}

// Arrangements returns all arrangements of l.
func Arrangements[T any](l []T) (all [][]T) {
	if len(l) == 0 {
		return [][]T{nil}
	}
	for i, v := range l {
		for _, rest := range Arrangements(slices.Delete(slices.Clone(l), i, i+1)) {
			all = append(all, append([]T{v}, rest...))
		}
	}
	return all
}

// Tight returns a world of five variables that has two functions, and room for so many nodes more than these have in the first order.
func Tight(t Test, r Random, more int) (w *World, tables [2]uint64, handles [2]int) {
	t.Helper()
	wide := New(t, r, 5, 5000)
	for i := range tables {
		tables[i] = wide.Some()
		wide.Handle(tables[i])
	}
	wide.M.Collect()
	w = New(t, r, 5, wide.M.Len()+more)
	for i, values := range tables {
		handles[i] = w.Handle(values)
	}
	w.M.Collect()
	return w, tables, handles
}
