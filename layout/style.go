package layout

import (
	"strings"

	"tailor/api"
)

// indent is how far the elements of a FORM or a BLOCK stand behind its TOpen.
const indent = 2

// style is a way to lay out a broken list (P7).
type style struct {
	has func(list element) bool                 // whether a list is of this style
	lay func(w *writer, list element, tail int) // lays it out, from the writer's column on
}

// styles tells all styles: a list's is the first that it has, and each list has the last one.
// (A function, as there are no functions in variables of the package.)
func styles() []style {
	return []style{
		{has: isForm, lay: layForm},
		{has: isBlock, lay: layBlock},
		{has: isCall, lay: layCall},
		{has: isRows, lay: layRows},
	}
}

// headWord tells the atom that a list begins with, if its TOpen is "("; else "".
func headWord(list element) string {
	if list.token.Text != "(" || len(list.inner) == 0 || !list.inner[0].is(api.TAtom) {
		return ""
	}
	return list.inner[0].token.Text
}

// hasPlainSecond tells whether a list has a second element, and that is no comment.
func hasPlainSecond(list element) bool {
	return len(list.inner) > 1 && !list.inner[1].is(api.TComment)
}

func isForm(list element) bool {
	switch headWord(list) {
	case "define", "lambda", "let", "let*", "letrec", "when", "unless":
		return true
	}
	return false
}

func layForm(w *writer, list element, tail int) {
	beside := 1
	if hasPlainSecond(list) {
		beside = 2
	}
	w.broken(list, beside, w.column+indent, tail)
}

func isBlock(list element) bool {
	switch headWord(list) {
	case "begin", "cond", "else", "do":
		return true
	}
	return false
}

func layBlock(w *writer, list element, tail int) {
	w.broken(list, 1, w.column+indent, tail)
}

func isCall(list element) bool {
	if !hasPlainSecond(list) {
		return false
	}
	first := list.inner[0]
	return first.is(api.TAtom) && !strings.HasPrefix(first.token.Text, "#|")
}

func layCall(w *writer, list element, tail int) {
	second := w.column + len(list.token.Text) + len(list.inner[0].token.Text) + 1
	w.broken(list, 2, second, tail)
}

func isRows(list element) bool {
	return true
}

func layRows(w *writer, list element, tail int) {
	w.broken(list, 1, w.column+len(list.token.Text), tail)
}
