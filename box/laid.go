package box

import (
	"slices"
	"sync"

	"tailor/api"
	"tailor/layout"
)

// laidFile is what a file comes to: the text that Format gives, and what is told of it.
type laidFile struct {
	text   string
	report api.Report
}

func layOut(file api.File, width int) laidFile {
	text, err, place := layout.Format(file.Text, width)
	return laidFile{text: text, report: api.Report{
		Name:    file.Name,
		Err:     err,
		Place:   place,
		Changed: err == api.OK && text != file.Text,
	}}
}

// layNamed lays out the files that are named, all at once; what each comes to lies where the file lies among the box's files.
// (A goroutine a file, not a name, as there may be any number of names.)
func (b *Box) layNamed(names []string, width int) []laidFile {
	laid := make([]laidFile, len(b.files))
	var workers sync.WaitGroup
	for i, file := range b.files {
		if slices.Contains(names, file.Name) {
			workers.Go(func() { laid[i] = layOut(file, width) })
		}
	}
	workers.Wait()
	return laid
}
