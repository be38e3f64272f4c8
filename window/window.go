// Package window is layer 1: see shared/doc/01-window.md.
package window

import (
	"storeman/api"
)

// ends is where the days end: no window reaches beyond it.
const ends = api.MaxDay + 1

// Right tells whether w is a window of days that there are.
func Right(w api.Window) bool {
	return 0 <= w.From && w.From <= w.Until && w.Until <= ends
}

// Has tells whether w is right, and day one of its days.
func Has(w api.Window, day int) bool {
	return Right(w) && w.From <= day && day < w.Until
}

// Meet answers the window of the days that both have.
func Meet(a, b api.Window) (api.Window, bool) {
	if !Right(a) || !Right(b) {
		return api.Window{}, false
	}
	return withDays(max(a.From, b.From), min(a.Until, b.Until))
}

// From answers the window of w's days from day on.
func From(w api.Window, day int) (api.Window, bool) {
	if !Right(w) {
		return api.Window{}, false
	}
	return withDays(max(w.From, day), w.Until)
}

// withDays answers the window from one day to ahead of another, if there are days between.
func withDays(from, until int) (api.Window, bool) {
	if from >= until {
		return api.Window{}, false
	}
	return api.Window{From: from, Until: until}, true
}

// Rows answers the days that some window of l has as the fewest windows, rising.
func Rows(l []api.Window) []api.Window {
	days, ok := ticked(l)
	if !ok {
		return nil
	}
	var rows []api.Window
	for day := range len(days) {
		if !days[day] {
			continue
		}
		if last := len(rows) - 1; last >= 0 && rows[last].Until == day {
			rows[last].Until++
		} else {
			rows = append(rows, api.Window{From: day, Until: day + 1})
		}
	}
	return rows
}

// Count answers how many days some window of l has.
func Count(l []api.Window) int {
	days, ok := ticked(l)
	if !ok {
		return 0
	}
	count := 0
	for day := range len(days) {
		if days[day] {
			count++
		}
	}
	return count
}

// ticked answers, for each day, whether some window of l has it; false, if one of l is not right.
func ticked(l []api.Window) ([ends]bool, bool) {
	// Only where windows begin and end is noted as they come, so that many wide ones cost no more than narrow ones.
	var begun [ends + 1]int
	for _, w := range l {
		if !Right(w) {
			return [ends]bool{}, false
		}
		begun[w.From]++
		begun[w.Until]--
	}
	var days [ends]bool
	going := 0
	for day := range len(days) {
		going += begun[day]
		days[day] = going > 0
	}
	return days, true
}
