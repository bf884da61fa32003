package layout

import "tailor/api"

// noFlat stands for the length of a flat text that is not there.
const noFlat = -1

// element is an atom, a comment, a prefix with the element that follows it, or a list.
type element struct {
	token api.Token // a list's TOpen, a prefix, or all that the element is
	inner []element // a list's elements; the one that follows a prefix
	flat  int       // the length of the flat text (P6), or noFlat
}

// is tells whether an element's first token is of a kind.
func (e element) is(kind int) bool {
	return e.token.Kind == kind
}

// flatLength tells what an element's flat is to be; its inner elements know theirs.
func (e element) flatLength() int {
	if e.is(api.TComment) {
		return noFlat
	}
	length := len(e.token.Text)
	for _, in := range e.inner {
		if in.flat == noFlat {
			return noFlat
		}
		length += in.flat
	}
	if e.is(api.TOpen) {
		// The spaces are one fewer than the elements, and then there is the ")", which an empty list has too.
		length += max(1, len(e.inner))
	}
	return length
}

// reader reads tokens as elements. They are such as Scan answers, so that each prefix is followed by an element, and each list is closed.
type reader struct {
	rest []api.Token
}

// readElements tells the elements of a whole text.
func readElements(tokens []api.Token) []element {
	r := reader{rest: tokens}
	return r.elements()
}

// next takes the first token that is not read yet.
func (r *reader) next() api.Token {
	token := r.rest[0]
	r.rest = r.rest[1:]
	return token
}

// elements reads up to the TClose that ends the list, or up to the end of the text.
func (r *reader) elements() []element {
	var row []element
	for len(r.rest) > 0 && r.rest[0].Kind != api.TClose {
		row = append(row, r.element())
	}
	return row
}

func (r *reader) element() element {
	e := element{token: r.next()}
	switch e.token.Kind {
	case api.TOpen:
		e.inner = r.elements()
		r.next() // the TClose
	case api.TPrefix:
		e.inner = []element{r.element()}
	}
	e.flat = e.flatLength()
	return e
}
