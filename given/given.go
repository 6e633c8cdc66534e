// Package given checks what functions are given that take a manager.
package given

import (
	"voussoir/api"
	"voussoir/dd"
)

// Flaw returns what is wrong about the manager, or else about the first of the handles that is none, or else about the first of the variables that is none.
func Flaw(m *dd.Man, handles, vars []int) api.Errno {
	if m == nil {
		return api.ErrNone
	}
	for _, h := range handles {
		if !m.Is(h) {
			return api.ErrHandle
		}
	}
	for _, v := range vars {
		if v < 0 || v >= m.Vars() {
			return api.ErrVar
		}
	}
	return api.OK
}
