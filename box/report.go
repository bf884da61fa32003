package box

import (
	"strings"

	"tailor/api"
)

// tell goes through names in their order; it answers a report for each, where ofFile tells that of a file by its number, and the number of Check and Fix (P10).
func (b *Box) tell(names []string, ofFile func(at int) api.Report) ([]api.Report, int) {
	reports := make([]api.Report, len(names))
	worst := 0
	for i, name := range names {
		if at, ok := b.find(name); ok {
			reports[i] = ofFile(at)
		} else {
			reports[i] = noSuchFile(name)
		}
		worst = max(worst, badness(reports[i]))
	}
	return reports, worst
}

// noSuchFile tells of a name that the box does not have.
func noSuchFile(name string) api.Report {
	// A copy, so that the answer shares nothing with the names that were handed in.
	return api.Report{Name: strings.Clone(name), Err: api.ErrName}
}

// badness is what a report makes of the number of Check and Fix, which is that of the worst one.
func badness(report api.Report) int {
	switch report.Err {
	case api.ErrName, api.ErrWidth, api.ErrIO:
		return 2
	case api.OK:
		if !report.Changed {
			return 0
		}
	}
	return 1
}
