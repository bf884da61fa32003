package box

import (
	"math/rand"
	"slices"
	"strings"
	"testing"

	"tailor/api"
	"tailor/layout"
)

// model is a box as the document tells it, name by name and without haste.
type model map[string]string

func (m model) files() []api.File {
	var files []api.File
	for name, text := range m {
		files = append(files, file(name, text))
	}
	slices.SortFunc(files, func(a, b api.File) int { return strings.Compare(a.Name, b.Name) })
	return files
}

func (m model) check(name string, width int) (api.Report, string) {
	text, ok := m[name]
	if !ok {
		return withError(name, api.ErrName, 0), ""
	}
	laid, err, place := layout.Format(text, width)
	return api.Report{Name: name, Err: err, Place: place, Changed: err == api.OK && laid != text}, laid
}

func (m model) fix(names []string, width, fail int) []api.Report {
	var reports []api.Report
	step := 0
	for _, name := range names {
		report, laid := m.check(name, width)
		if report.Changed && (fail == step || fail == step+1) {
			report = withError(name, api.ErrIO, 0)
			step += fail - step + 1
		} else if report.Changed {
			m[name] = laid
			step += 2
		}
		reports = append(reports, report)
	}
	return reports
}

func (m model) checkAll(names []string, width int) []api.Report {
	var reports []api.Report
	for _, name := range names {
		report, _ := m.check(name, width)
		reports = append(reports, report)
	}
	return reports
}

// numberOf is P10's number.
func numberOf(reports []api.Report) int {
	number := 0
	for _, report := range reports {
		if slices.Contains([]api.Errno{api.ErrName, api.ErrWidth, api.ErrIO}, report.Err) {
			return 2
		}
		if report.Err != api.OK || report.Changed {
			number = 1
		}
	}
	return number
}

// drawText draws a text, one in four of which is wrong, and one in three laid out already.
func drawText(r *rand.Rand) string {
	text := ""
	for range r.Intn(6) {
		text += []string{"(f a b)", "(define (g x) (h x))", "(begin a)", "\n", " ", ";c\n", "'x", "\"s\"", "(let ((a 1)) ;d\n a)"}[r.Intn(9)]
	}
	if r.Intn(4) == 0 {
		text += []string{"(", ")", "\x01", "'", "\""}[r.Intn(5)]
	}
	if r.Intn(3) == 0 {
		text, _, _ = layout.Format(text, 1+r.Intn(30))
	}
	return text
}

func drawBox(t *testing.T, r *rand.Rand) (*Box, model) {
	m := model{}
	var files []api.File
	for _, i := range r.Perm(api.MaxFiles)[:r.Intn(api.MaxFiles+1)] {
		f := file(string(rune('a'+i)), drawText(r))
		m[f.Name] = f.Text
		files = append(files, f)
	}
	return newBox(t, files...), m
}

func drawNames(r *rand.Rand) []string {
	var names []string
	for range r.Intn(20) {
		names = append(names, string(rune('a'+r.Intn(api.MaxFiles+1))))
	}
	return names
}

// wantWhole: P12: a file is what it was, or what Format made of it.
func wantWhole(t *testing.T, before, after []api.File, width int) {
	t.Helper()
	for i, f := range after {
		laid, err, _ := layout.Format(before[i].Text, width)
		if f.Name != before[i].Name || f.Text != before[i].Text && (err != api.OK || f.Text != laid) {
			t.Fatalf("%q has become %q", before[i], f)
		}
	}
}

// TestDrawnCalls: P10 to P12, by many calls of one box.
func TestDrawnCalls(t *testing.T) {
	r := rand.New(rand.NewSource(4))
	failed := 0
	for range 2000 {
		b, m := drawBox(t, r)
		for range 4 {
			names, width, fail := drawNames(r), r.Intn(30), r.Intn(14)-2
			want := m.checkAll(names, width)
			got, number := b.Check(names, width)
			wantReports(t, "Check", got, number, want, numberOf(want))
			before := b.Files()
			want = m.fix(names, width, fail)
			got, number = b.Fix(names, width, fail)
			wantReports(t, "Fix", got, number, want, numberOf(want))
			wantFiles(t, b, m.files()...)
			wantWhole(t, before, b.Files(), width)
			if slices.ContainsFunc(want, func(report api.Report) bool { return report.Err == api.ErrIO }) {
				failed++
			}
		}
	}
	if failed < 500 {
		t.Errorf("only %d calls had a step that failed", failed)
	}
}
