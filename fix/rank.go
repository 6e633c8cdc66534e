package fix

import (
	"voussoir/api"
	"voussoir/dd"
	"voussoir/ops"
)

// Rank returns the first most of these functions: q, and on what f of the disjunction of all so far adds to it, while that is anything. It reports whether these are all.
func Rank(m *dd.Man, q int, f func(h int) (int, api.Errno), most int) (l []int, whole bool, e api.Errno) {
	if e := flaw(m, q, f); e != api.OK {
		return nil, false, e
	}
	most = min(max(most, 0), api.MaxSteps)
	r := &ranks{m: m}
	defer func() { r.drop() }()
	r.coming, e = m.Copy(q)
	for e == api.OK {
		if whole || len(r.l) == most {
			l, r.l = r.l, nil
			return l, whole, api.OK
		}
		whole, e = r.advance(f)
	}
	return nil, false, e
}

// ranks are the functions of Rank as far as they are known. It owns its handles.
type ranks struct {
	m      *dd.Man
	l      []int
	all    int // their disjunction
	coming int // the one after them
}

// advance appends the function that is coming and finds out which one comes after it; it reports whether that adds nothing.
func (r *ranks) advance(f mapping) (ended bool, e api.Errno) {
	all, e := ops.Or(r.m, r.all, r.coming)
	if e != api.OK {
		return false, e
	}
	r.m.Drop(r.all)
	r.l = append(r.l, r.coming)
	r.all, r.coming = all, r.m.Const(false)
	image, e := apply(r.m, f, r.all)
	if e != api.OK {
		return false, e
	}
	defer r.m.Drop(image)
	r.coming, e = ops.Diff(r.m, image, r.all)
	if e != api.OK {
		return false, e
	}
	return r.m.Same(r.coming, r.m.Const(false))
}

// drop drops all handles. That of a constant, which a field has in the beginning, stays.
func (r *ranks) drop() {
	r.m.Drop(r.l...)
	r.m.Drop(r.all)
	r.m.Drop(r.coming)
}
