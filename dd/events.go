package dd

import (
	"voussoir/api"
	"voussoir/perm"
)

// Plan appends events to the queue.
func (m *Man) Plan(l ...api.Event) api.Errno {
	if m == nil {
		return api.ErrNone
	}
	if len(l) > api.MaxEvents-len(m.events) {
		return api.ErrMany
	}
	for _, event := range l {
		if e := m.flaw(event); e != api.OK {
			return e
		}
	}
	if len(m.events) == 0 {
		m.calls = 0
	}
	m.events = append(m.events, l...)
	return api.OK
}

// flaw returns what is wrong about an event.
func (m *Man) flaw(event api.Event) api.Errno {
	outside := event.Level < 0 || event.Level >= m.Vars()-1
	switch {
	case event.Kind < api.EvCollect || event.Kind > api.EvTurn:
		return api.ErrKind
	case event.After < 1 || event.Kind == api.EvSwap && outside:
		return api.ErrRange
	}
	return api.OK
}

// Waits returns the length of the queue.
func (m *Man) Waits() int {
	if m == nil {
		return 0
	}
	return len(m.events)
}

// count counts a call of Mk and reports whether it is the one at which the first event of the queue takes place.
func (m *Man) count() bool {
	m.calls++
	return len(m.events) > 0 && m.calls >= m.events[0].After
}

// interrupt lets the first event of the queue take place.
func (m *Man) interrupt() {
	event := m.events[0]
	m.events = m.events[1:]
	m.calls = 0
	switch event.Kind {
	case api.EvCollect:
		m.Collect()
	case api.EvSwap:
		m.Swap(event.Level)
	case api.EvTurn:
		m.turn()
	}
}

// turn reverses the variable order, as far as there is room for it.
func (m *Man) turn() {
	order := m.Order()
	steps, _ := perm.Steps(order, perm.Turn(order))
	for _, level := range steps {
		m.Swap(level)
	}
}
