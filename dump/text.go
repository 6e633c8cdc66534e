package dump

import (
	"math"
	"slices"
	"strings"

	"voussoir/api"
	"voussoir/num"
)

// Text returns a line for each row, and one for the roots.
func Text(rows []api.Row, roots []int) (s string, e api.Errno) {
	if !valid(rows, roots) {
		return "", api.ErrForm
	}
	var b strings.Builder
	for _, row := range rows {
		b.WriteString(num.Text(row.Var) + " " + num.Text(row.Lo) + " " + num.Text(row.Hi) + "\n")
	}
	b.WriteString("roots")
	for _, root := range roots {
		b.WriteString(" " + num.Text(root))
	}
	b.WriteString("\n")
	return b.String(), api.OK
}

// Read returns the valid rows and roots whose Text is s.
func Read(s string) (rows []api.Row, roots []int, e api.Errno) {
	if len(s) > api.MaxText {
		return nil, nil, api.ErrLong
	}
	lines := strings.Split(s, "\n")
	last := max(len(lines)-2, 0) // behind it is what follows its line feed
	for _, line := range lines[:last] {
		n := append(numbers(line), 0, 0, 0)
		rows = append(rows, api.Row{Var: n[0], Lo: n[1], Hi: n[2]})
	}
	roots = numbers(strings.TrimPrefix(lines[last], "roots"))
	// Whatever may be wrong about s, its rows and roots have another Text then.
	if text, e := Text(rows, roots); e != api.OK || text != s {
		return nil, nil, api.ErrForm
	}
	return slices.Clip(rows), slices.Clip(roots), api.OK
}

// numbers returns the numbers between the blanks of s, with 0 for what is none.
func numbers(s string) (l []int) {
	for _, word := range strings.Fields(s) {
		n, _ := num.Parse(word, 0, math.MaxInt)
		l = append(l, n)
	}
	return l
}
