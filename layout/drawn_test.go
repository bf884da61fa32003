package layout

import (
	"math/rand"
	"slices"
	"strings"
	"testing"

	"tailor/api"
	"tailor/scan"
)

func pick(r *rand.Rand, from ...string) string {
	return from[r.Intn(len(from))]
}

// drawElement draws an element that may have comments in it.
func drawElement(r *rand.Rand, deep int) string {
	prefix := ""
	for r.Intn(6) == 0 {
		prefix += pick(r, "'", "`", ",", ",@", "#;") + pick(r, "", "", " ", "\n")
	}
	if deep == 0 || r.Intn(3) == 0 {
		return prefix + pick(r, "a", "bcd", "#", "#t", "\"x  y\"", "\"\\\"\"", "#| c |#", "define", "let*", "begin", "else", "#()", "()")
	}
	head := pick(r, "", "", "define", "lambda", "let", "when", "begin", "cond", "f", "#|b|#", "(a)")
	return prefix + pick(r, "(", "(", "(", "#(") + head + drawRow(r, deep-1) + ")"
}

// drawRow draws elements, blanks and comments, which may follow an element.
func drawRow(r *rand.Rand, deep int) string {
	row := ""
	for range r.Intn(5) {
		row += pick(r, " ", "\n", "\t ", " ; x \n", "\n;y\n", ";\n") + drawElement(r, deep)
	}
	return row + pick(r, "", "", " ", " ;z\n", "\n;z\t\n")
}

// sameTokens tells whether tokens are the same, but for their places.
func sameTokens(a, b []api.Token) bool {
	return slices.EqualFunc(a, b, func(x, y api.Token) bool {
		x.Place, y.Place = 0, 0
		return x == y
	})
}

// wantStays: P12's first two points.
func wantStays(t *testing.T, text string, width, other int, got string) {
	t.Helper()
	before, _, _ := scan.Scan(text)
	after, err, _ := scan.Scan(got)
	if err != api.OK || !sameTokens(before, after) {
		t.Fatalf("Format(%q, %d) = %q: other tokens", text, width, got)
	}
	if again, _, _ := Format(got, width); again != got {
		t.Fatalf("Format(%q, %d) = %q; laid out again: %q", text, width, got, again)
	}
	at, _, _ := Format(text, other)
	if by, _, _ := Format(got, other); by != at {
		t.Fatalf("Format(%q, %d) = %q; by %d: %q, want %q", text, width, got, other, by, at)
	}
}

// wantLines: P8, and the newline at the end.
func wantLines(t *testing.T, text string, width int, got string) {
	t.Helper()
	body, ended := strings.CutSuffix(got, "\n")
	if got != "" && !ended {
		t.Fatalf("Format(%q, %d) = %q: no newline at its end", text, width, got)
	}
	for _, line := range strings.Split(body, "\n") {
		if got != "" && line == "" || strings.TrimRight(line, " \t") != line || strings.HasPrefix(strings.TrimLeft(line, " "), "\t") {
			t.Fatalf("Format(%q, %d) = %q: the line %q", text, width, got, line)
		}
	}
}

// elementEnd tells the number of the token behind the element that begins with the first one, how many elements that has in it, and its flat text; ok is false, if it has none.
func elementEnd(tokens []api.Token) (end, count int, flat string, ok bool) {
	first := tokens[0]
	switch first.Kind {
	case api.TPrefix:
		end, count, flat, ok = elementEnd(tokens[1:])
		return end + 1, count, first.Text + flat, ok
	case api.TOpen:
		ok = true
		var texts []string
		end = 1
		for tokens[end].Kind != api.TClose {
			more, _, text, has := elementEnd(tokens[end:])
			texts = append(texts, text)
			ok = ok && has
			end += more
		}
		return end + 1, len(texts), first.Text + strings.Join(texts, " ") + ")", ok
	}
	return 1, 0, first.Text, first.Kind == api.TAtom
}

// tailBehind tells the tail of an element from the tokens that follow it.
func tailBehind(following []api.Token) int {
	if len(following) == 0 {
		return 0
	}
	if following[0].Behind {
		return 1 + len(following[0].Text)
	}
	if following[0].Kind == api.TClose {
		return 1 + tailBehind(following[1:])
	}
	return 0
}

// wantFlat: P6, of each element of what was laid out: it is flat if it fits, and else, if it is a list of three or more, it is not; and P12's third point.
func wantFlat(t *testing.T, text string, width int, got string) {
	t.Helper()
	tokens, _, _ := scan.Scan(got)
	for i, token := range tokens {
		if token.Kind == api.TClose {
			continue
		}
		end, count, flat, ok := elementEnd(tokens[i:])
		lineBegin := strings.LastIndexByte(got[:token.Place], '\n') + 1
		fits := ok && token.Place-lineBegin+len(flat)+tailBehind(tokens[i+end:]) <= width
		isFlat := strings.HasPrefix(got[token.Place:], flat)
		if fits && !isFlat || !fits && isFlat && count > 2 {
			t.Fatalf("Format(%q, %d) = %q: %q at %d: fits %t, flat %t", text, width, got, flat, token.Place, fits, isFlat)
		}
		line, _, _ := strings.Cut(got[lineBegin:], "\n")
		last := tokens[i+end-1].Place
		if len(line) > width && count > 2 && last < lineBegin+len(line) {
			t.Fatalf("Format(%q, %d) = %q: the line %q has a list of %d", text, width, got, line, count)
		}
	}
}

func TestDrawnLayouts(t *testing.T) {
	r := rand.New(rand.NewSource(2))
	laid := 0
	for range 6000 {
		text := drawRow(r, 4)
		width, other := 1+r.Intn(40), 1+r.Intn(40)
		got, err, _ := Format(text, width)
		if err != api.OK || len(got) > api.MaxText {
			continue
		}
		laid++
		wantStays(t, text, width, other, got)
		wantLines(t, text, width, got)
		wantFlat(t, text, width, got)
	}
	if laid < 4000 {
		t.Errorf("only %d texts were laid out", laid)
	}
}

// TestDrawnPieces: P1, of texts that are mostly wrong.
func TestDrawnPieces(t *testing.T) {
	r := rand.New(rand.NewSource(3))
	for range 100000 {
		text := ""
		for range r.Intn(12) {
			text += pick(r, "(", ")", "#", "|", ";", "'", ",", "@", "\"", "\\", "a", " ", "\n", "(a ", "a)", "#|", "|#", ";b \n", "\x01")
		}
		width := r.Intn(api.MaxWidth+20) - 10
		tokens, wantErr, wantPlace := scan.Scan(text)
		if width < 1 || width > api.MaxWidth {
			wantErr, wantPlace = api.ErrWidth, 0
		}
		got, err, place := Format(text, width)
		if err != wantErr || place != wantPlace || (got == "") != (err != api.OK || len(tokens) == 0) {
			t.Fatalf("Format(%q, %d) = %q, %d, %d, want %d, %d", text, width, got, err, place, wantErr, wantPlace)
		}
	}
}
