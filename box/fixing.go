package box

import "tailor/api"

// fixing is a call of Fix that is under way.
type fixing struct {
	box   *Box
	laid  []laidFile // what the named files come to, as they are now
	width int
	steps int // how many were made
	fail  int // the number of the one that fails
}

// fix replaces a file by what it comes to, if that is another text.
func (f *fixing) fix(at int) api.Report {
	laid := f.laid[at]
	if !laid.report.Changed {
		return laid.report
	}
	if !f.replace(at, laid.text) {
		return api.Report{Name: laid.report.Name, Err: api.ErrIO}
	}
	// It may be named again, and may then be too long to be read.
	f.laid[at] = layOut(f.box.files[at], f.width)
	return laid.report
}

// replace gives a file a text, as a whole or not at all, and tells whether it did.
func (f *fixing) replace(at int, text string) (replaced bool) {
	defer func() {
		if !replaced {
			f.box.aside = nil
		}
	}()
	return f.writeAside(text) && f.takePlace(at)
}

// writeAside is the first step. If it fails, something may have been written all the same.
func (f *fixing) writeAside(text string) bool {
	f.box.aside = &text
	return f.step()
}

// takePlace is the second step: what is aside becomes the file, and is aside no more.
func (f *fixing) takePlace(at int) bool {
	if !f.step() {
		return false
	}
	f.box.files[at].Text = *f.box.aside
	f.box.aside = nil
	return true
}

// step makes the next step, and tells whether it goes well.
func (f *fixing) step() bool {
	number := f.steps
	f.steps++
	return number != f.fail
}
