package layout

import (
	"strings"

	"tailor/api"
)

// writer gathers what is laid out.
type writer struct {
	out    strings.Builder
	width  int
	column int // where the next byte will stand
}

func (w *writer) put(text string) {
	w.out.WriteString(text)
	w.column += len(text)
}

// newLine begins a line of its own, from a column on.
func (w *writer) newLine(column int) {
	w.out.WriteString("\n")
	w.column = 0
	w.put(strings.Repeat(" ", column))
}

// element lays an element out, with a tail (P6).
func (w *writer) element(e element, tail int) {
	switch {
	case e.flat != noFlat && w.column+e.flat+tail <= w.width:
		w.flat(e)
	case e.is(api.TOpen):
		w.list(e, tail)
	case e.is(api.TPrefix):
		w.put(e.token.Text)
		w.element(e.inner[0], tail)
	default:
		w.put(e.token.Text)
	}
}

// flat puts an element's flat text.
func (w *writer) flat(e element) {
	w.put(e.token.Text)
	for i, in := range e.inner {
		if i > 0 {
			w.put(" ")
		}
		w.flat(in)
	}
	if e.is(api.TOpen) {
		w.put(")")
	}
}

// list lays a list out by its style.
func (w *writer) list(list element, tail int) {
	for _, s := range styles() {
		if s.has(list) {
			s.lay(w, list, tail)
			return
		}
	}
}

// broken lays out a list, of which some first elements stand beside one another and all others in a column.
func (w *writer) broken(list element, beside, column, tail int) {
	w.put(list.token.Text)
	w.row(list.inner, beside, column, tail+1)
	// Behind a comment, on its line, the ")" would be a part of it.
	if last := len(list.inner) - 1; last >= 0 && list.inner[last].is(api.TComment) {
		w.newLine(column)
	}
	w.put(")")
}

// row lays out the elements of a list, or of a text: the first one where the writer is, then those that stand beside it, the others in a column.
// The last one's tail is handed in, as only the caller knows what ends the row.
func (w *writer) row(row []element, beside, column, lastTail int) {
	for i, e := range row {
		switch {
		case i == 0:
		case i < beside || e.token.Behind:
			w.put(" ")
		default:
			w.newLine(column)
		}
		w.element(e, tailOf(row[i:], lastTail))
	}
}

// tailOf tells the tail of the first element of a row's rest (P7).
func tailOf(rest []element, lastTail int) int {
	if len(rest) == 1 {
		return lastTail
	}
	if rest[1].token.Behind {
		return 1 + len(rest[1].token.Text)
	}
	return 0
}
