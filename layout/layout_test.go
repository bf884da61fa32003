package layout

import (
	"strings"
	"testing"
	"unsafe"

	"tailor/api"
)

// good is a text, a width, and what Format is to answer.
type good struct {
	text  string
	width int
	want  string
}

func wantLayouts(t *testing.T, cases []good) {
	t.Helper()
	for _, c := range cases {
		got, err, place := Format(c.text, c.width)
		if got != c.want || err != api.OK || place != 0 {
			t.Errorf("Format(%q, %d) = %q, %d, %d, want %q", c.text, c.width, got, err, place, c.want)
		}
	}
}

// bad is a text, a width, and the error and place that Format is to answer.
type bad struct {
	text  string
	width int
	err   api.Errno
	place int
}

func wantErrors(t *testing.T, cases []bad) {
	t.Helper()
	for _, c := range cases {
		got, err, place := Format(c.text, c.width)
		if got != "" || err != c.err || place != c.place {
			t.Errorf("Format(%q, %d) = %q, %d, %d, want \"\", %d, %d", c.text, c.width, got, err, place, c.err, c.place)
		}
	}
}

// TestExamples: those of the document that are of layouts.
func TestExamples(t *testing.T) {
	wantLayouts(t, []good{
		{"(f   a\n b)", 80, "(f a b)\n"},
		{"(f   a\n b)", 6, "(f a\n   b)\n"},
		{"(define (f x) (g x))", 12, "(define (f x)\n  (g x))\n"},
		{"(a ; c\n b)", 80, "(a ; c\n b)\n"},
		{"(a b ; c\n)", 80, "(a b ; c\n   )\n"},
		{"(begin a)", 5, "(begin\n  a)\n"},
		{"((a) (b))", 5, "((a)\n (b))\n"},
		{"'(1 2 3)", 6, "'(1 2\n    3)\n"},
		{"; x\na ;y\n", 80, "; x\na ;y\n"},
		{"a\n;y", 80, "a\n;y\n"},
	})
}

// TestWidths: P5.
func TestWidths(t *testing.T) {
	for _, text := range []string{"", "a", "(", ")", "\x00", strings.Repeat("a", api.MaxText+1)} {
		for _, width := range []int{0, -1, api.MaxWidth + 1, 1<<63 - 1, -1 << 63} {
			wantErrors(t, []bad{{text, width, api.ErrWidth, 0}})
		}
	}
	long := strings.Repeat("a", api.MaxWidth-4)
	wantLayouts(t, []good{
		{"(f a)", 1, "(f a)\n"},
		{"(f a b)", 1, "(f a\n   b)\n"},
		{"(f " + long + ")", api.MaxWidth, "(f " + long + ")\n"},
		{"((f) " + long[:api.MaxWidth-6] + ")", api.MaxWidth, "((f) " + long[:api.MaxWidth-6] + ")\n"},
		{"((f) " + long[:api.MaxWidth-5] + ")", api.MaxWidth, "((f)\n " + long[:api.MaxWidth-5] + ")\n"},
	})
}

// TestErrors: P5: those of Scan, with their places, at every width.
func TestErrors(t *testing.T) {
	for _, width := range []int{1, 80, api.MaxWidth} {
		wantErrors(t, []bad{
			{strings.Repeat("a", api.MaxText+1), width, api.ErrLong, 0},
			{"(a \x7f", width, api.ErrByte, 3},
			{"(a\n \"b", width, api.ErrString, 4},
			{"(a #|b", width, api.ErrBlock, 3},
			{"(a) (b", width, api.ErrOpen, 4},
			{"(a) b)", width, api.ErrClose, 5},
			{"(a ')", width, api.ErrPrefix, 3},
			{"a ,", width, api.ErrPrefix, 2},
			{"(a , @b)", width, api.ErrPrefix, 3},
			{" " + strings.Repeat("(", api.MaxDeep+1), width, api.ErrDeep, api.MaxDeep + 1},
			{") \"", width, api.ErrString, 2},
		})
	}
}

// TestNoTokens: P5.
func TestNoTokens(t *testing.T) {
	wantLayouts(t, []good{
		{"", 1, ""},
		{"", api.MaxWidth, ""},
		{" ", 80, ""},
		{"\n", 80, ""},
		{"\n \t\n\n", 80, ""},
	})
}

// TestTextElements: P5: the elements of the text itself.
func TestTextElements(t *testing.T) {
	wantLayouts(t, []good{
		{"a", 80, "a\n"},
		{"  a  b\n\n\nc", 80, "a\nb\nc\n"},
		{"a(b)'c\"d\"", 80, "a\n(b)\n'c\n\"d\"\n"},
		{"define a b", 80, "define\na\nb\n"},
		{"(a b)(c d)\n", 80, "(a b)\n(c d)\n"},
		{";a\n\n  ;b \t\n", 80, ";a\n;b\n"},
		{"a;b", 80, "a ;b\n"},
		{"a   ;b\n;c\nd", 80, "a ;b\n;c\nd\n"},
		{"a;b", 1, "a ;b\n"},
		{"(a b)\t; c\n(d)\n; e", 80, "(a b) ; c\n(d)\n; e\n"},
		{"#|a|# ;b\n#|c|#", 80, "#|a|# ;b\n#|c|#\n"},
		{"a\n\t; b", 80, "a\n; b\n"},
	})
}

// TestTextTails: P5: of the text's last element, and of those ahead of a comment.
func TestTextTails(t *testing.T) {
	wantLayouts(t, []good{
		{"(f a b)", 7, "(f a b)\n"},
		{"(f a b)", 6, "(f a\n   b)\n"},
		{"(f a b) c", 7, "(f a b)\nc\n"},
		{"(f a b)\n;long", 7, "(f a b)\n;long\n"},
		{"(f a b);cd", 11, "(f a b) ;cd\n"},
		{"(f a b);cd", 10, "(f a\n   b) ;cd\n"},
		{"(f a b);cd\nx", 10, "(f a\n   b) ;cd\nx\n"},
		{"'(f a b);cd", 12, "'(f a b) ;cd\n"},
		{"'(f a b);cd", 11, "'(f a\n    b) ;cd\n"},
		{"x;c\n(f a b)", 7, "x ;c\n(f a b)\n"},
	})
}

// TestFlatTexts: P6.
func TestFlatTexts(t *testing.T) {
	wantLayouts(t, []good{
		{"()", 2, "()\n"},
		{"( \n )", 1, "()\n"},
		{"#()", 1, "#()\n"},
		{"#( a   b )", 6, "#(a b)\n"},
		{"(\n(a)\n(\nb)\n)", 9, "((a) (b))\n"},
		{"( ( ) ( ( ) ) )", 10, "(() (()))\n"},
		{"' a", 80, "'a\n"},
		{"' ` , ,@ #; a", 80, "'`,,@#;a\n"},
		{", ( ' a  ,@b )", 80, ",('a ,@b)\n"},
		{"(a\"b  c\"d)", 80, "(a \"b  c\" d)\n"},
		{"(a #|  b |# c)", 80, "(a #|  b |# c)\n"},
		{"(#|a|#(#|b|#))", 80, "(#|a|# (#|b|#))\n"},
		{"(\"\t\" \"\\\"\")", 80, "(\"\t\" \"\\\"\")\n"},
		{"(define (f x)\n  (begin x))", 80, "(define (f x) (begin x))\n"},
		{"(a . b)", 80, "(a . b)\n"},
	})
}

// TestElementsThatJustFit: P6: each text at the least width at which it is flat, and one below.
func TestElementsThatJustFit(t *testing.T) {
	for _, c := range []struct {
		text   string
		broken string
	}{
		{"(f a)", "(f a)"},
		{"(f a b)", "(f a\n   b)"},
		{"#(f a b)", "#(f a\n    b)"},
		{"((a) b)", "((a)\n b)"},
		{"(begin a)", "(begin\n  a)"},
		{"(when a b)", "(when a\n  b)"},
		{"'(f a b)", "'(f a\n    b)"},
		{",@'(f a b)", ",@'(f a\n      b)"},
		{"(f a #|b c|#)", "(f a\n   #|b c|#)"},
		{"(f \"a b\" c)", "(f \"a b\"\n   c)"},
		{"(f (g a b))", "(f (g a\n      b))"},
		{"((((a b c))))", "((((a b\n      c))))"},
		{"(f '(a b c))", "(f '(a b\n       c))"},
		{"(define x '(y z))", "(define x\n  '(y z))"},
	} {
		wantLayouts(t, []good{
			{c.text, len(c.text), c.text + "\n"},
			{c.text, len(c.text) - 1, c.broken + "\n"},
		})
	}
}

// TestWhatCannotBeBroken: P6: atoms, comments, prefixes of atoms, and empty lists are longer than the width, if need be.
func TestWhatCannotBeBroken(t *testing.T) {
	wantLayouts(t, []good{
		{"abc", 1, "abc\n"},
		{"\"a b\"", 1, "\"a b\"\n"},
		{"#|a b|#", 1, "#|a b|#\n"},
		{"; a b c", 1, "; a b c\n"},
		{"''abc", 1, "''abc\n"},
		{"()", 1, "()\n"},
		{"'#()", 1, "'#()\n"},
		{"(abc)", 1, "(abc)\n"},
		{"((a))", 1, "((a))\n"},
		{"(f abc)", 1, "(f abc)\n"},
	})
}

// TestForms: P7.
func TestForms(t *testing.T) {
	for _, word := range []string{"define", "lambda", "let", "let*", "letrec", "when", "unless"} {
		head := "(" + word
		wantLayouts(t, []good{
			{head + ")", 1, head + ")\n"},
			{head + " a)", 1, head + " a)\n"},
			{head + " a b)", 1, head + " a\n  b)\n"},
			{head + " (a b) c 'd)", 1, head + " (a b)\n  c\n  'd)\n"},
			{head + "\na\nb)", len(head) + 5, head + " a b)\n"},
			{head + " #|a|# b)", 1, head + " #|a|#\n  b)\n"},
			{"'" + head + " a b)", 1, "'" + head + " a\n   b)\n"},
			{"((x) " + head + " a b))", 1, "((x)\n " + head + " a\n   b))\n"},
		})
	}
	wantLayouts(t, []good{
		{"(define (f x) (g x y))", 8, "(define (f x)\n  (g x\n     y))\n"},
		{"(define (f x y) z)", 14, "(define (f x\n           y)\n  z)\n"},
		{"(define (f x y) z)", 15, "(define (f x y)\n  z)\n"},
		{"(let ((a 1) (b 2)) a)", 12, "(let ((a 1)\n      (b 2))\n  a)\n"},
	})
}

// TestListsThatMissForm: P7: they are of another style.
func TestListsThatMissForm(t *testing.T) {
	wantLayouts(t, []good{
		{"#(define a b)", 1, "#(define a\n         b)\n"},
		{"#(let a b)", 1, "#(let a\n      b)\n"},
		{"(defin a b)", 1, "(defin a\n       b)\n"},
		{"(defines a b)", 1, "(defines a\n         b)\n"},
		{"(Define a b)", 1, "(Define a\n        b)\n"},
		{"(let** a b)", 1, "(let** a\n       b)\n"},
		{"(letrec* a b)", 1, "(letrec* a\n         b)\n"},
		{"(\"let\" a b)", 1, "(\"let\" a\n       b)\n"},
		{"('let a b)", 1, "('let\n a\n b)\n"},
		{"((let) a b)", 1, "((let)\n a\n b)\n"},
		{"(#|let|# a b)", 1, "(#|let|#\n a\n b)\n"},
		{"(#|x|# let a b)", 1, "(#|x|#\n let\n a\n b)\n"},
		{"(;x\nlet a b)", 80, "(;x\n let\n a\n b)\n"},
	})
}

// TestBlocks: P7.
func TestBlocks(t *testing.T) {
	for _, word := range []string{"begin", "cond", "else", "do"} {
		head := "(" + word
		wantLayouts(t, []good{
			{head + ")", 1, head + ")\n"},
			{head + " a)", 1, head + "\n  a)\n"},
			{head + " a 'b)", 1, head + "\n  a\n  'b)\n"},
			{head + "\na\nb)", len(head) + 5, head + " a b)\n"},
			{head + " (a b) c)", 7, head + "\n  (a b)\n  c)\n"},
			{"`" + head + " a b)", 1, "`" + head + "\n   a\n   b)\n"},
			{"(f " + head + " a))", 1, "(f " + head + "\n     a))\n"},
		})
	}
	wantLayouts(t, []good{
		{"(cond (a b) (else c))", 10, "(cond\n  (a b)\n  (else\n    c))\n"},
		{"#(begin a b)", 1, "#(begin a\n        b)\n"},
		{"(begins a b)", 1, "(begins a\n        b)\n"},
		{"(cond* a b)", 1, "(cond* a\n       b)\n"},
		{"(\"do\" a b)", 1, "(\"do\" a\n      b)\n"},
		{"('do a b)", 1, "('do\n a\n b)\n"},
		{"((begin) a)", 1, "((begin)\n a)\n"},
	})
}

// TestCalls: P7.
func TestCalls(t *testing.T) {
	wantLayouts(t, []good{
		{"(f a)", 1, "(f a)\n"},
		{"(f a b c)", 1, "(f a\n   b\n   c)\n"},
		{"(fgh a b)", 1, "(fgh a\n     b)\n"},
		{"#(f a b)", 1, "#(f a\n    b)\n"},
		{"(1 2 3)", 1, "(1 2\n   3)\n"},
		{"(\"a b\" c d)", 1, "(\"a b\" c\n       d)\n"},
		{"(f #|a|# b)", 1, "(f #|a|#\n   b)\n"},
		{"(# a b)", 1, "(# a\n   b)\n"},
		{"(f 'a 'b)", 1, "(f 'a\n   'b)\n"},
		{"(f (a b c) d)", 1, "(f (a b\n      c)\n   d)\n"},
		{"(f () ())", 1, "(f ()\n   ())\n"},
		{"(f (g (h a b) c) d)", 1, "(f (g (h a\n         b)\n      c)\n   d)\n"},
	})
}

// TestRows: P7.
func TestRows(t *testing.T) {
	wantLayouts(t, []good{
		{"(abc)", 1, "(abc)\n"},
		{"((a) b)", 1, "((a)\n b)\n"},
		{"((a) (b) (c))", 5, "((a)\n (b)\n (c))\n"},
		{"#((a) b c)", 1, "#((a)\n  b\n  c)\n"},
		{"('a b c)", 1, "('a\n b\n c)\n"},
		{"(#;a b c)", 1, "(#;a\n b\n c)\n"},
		{"(#|f|# a b)", 1, "(#|f|#\n a\n b)\n"},
		{"(#|f|#)", 1, "(#|f|#)\n"},
		{"(() a)", 1, "(()\n a)\n"},
		{"'((a) b)", 1, "'((a)\n  b)\n"},
		{"((a b c) d)", 5, "((a b\n    c)\n d)\n"},
	})
}

// TestBehindComments: P7: in each style, at each element.
func TestBehindComments(t *testing.T) {
	wantLayouts(t, []good{
		{"(define;c\na b)", 80, "(define ;c\n  a\n  b)\n"},
		{"(define a;c\nb)", 80, "(define a ;c\n  b)\n"},
		{"(define a b;c\nd)", 80, "(define a\n  b ;c\n  d)\n"},
		{"(begin;c\na)", 80, "(begin ;c\n  a)\n"},
		{"(begin a;c\nb)", 80, "(begin\n  a ;c\n  b)\n"},
		{"(f;c\na b)", 80, "(f ;c\n a\n b)\n"},
		{"#(f;c\na b)", 80, "#(f ;c\n  a\n  b)\n"},
		{"(f a;c\nb)", 80, "(f a ;c\n   b)\n"},
		{"(f a b;c\nd)", 80, "(f a\n   b ;c\n   d)\n"},
		{"((a);c\nb)", 80, "((a) ;c\n b)\n"},
		{"((a) b;c\nd)", 80, "((a)\n b ;c\n d)\n"},
		{"(#|a|#;c\nb)", 80, "(#|a|# ;c\n b)\n"},
		{"('a;c\nb)", 80, "('a ;c\n b)\n"},
		{"(f 'a;c\nb)", 80, "(f 'a ;c\n   b)\n"},
		{"(f '(a b);c\nd)", 80, "(f '(a b) ;c\n   d)\n"},
		{"(f a;c  \t\nb)", 80, "(f a ;c\n   b)\n"},
	})
}

// TestOtherComments: P7: comments that are not Behind.
func TestOtherComments(t *testing.T) {
	wantLayouts(t, []good{
		{"(;c\na b)", 80, "(;c\n a\n b)\n"},
		{"(\n\n;c\na)", 80, "(;c\n a)\n"},
		{"#( ;c\na)", 80, "#(;c\n  a)\n"},
		{"(define\n;c\na b)", 80, "(define\n  ;c\n  a\n  b)\n"},
		{"(define a\n;c\nb)", 80, "(define a\n  ;c\n  b)\n"},
		{"(define;b\n;c\na)", 80, "(define ;b\n  ;c\n  a)\n"},
		{"(begin\n;c\na)", 80, "(begin\n  ;c\n  a)\n"},
		{"(f\n;c\na)", 80, "(f\n ;c\n a)\n"},
		{"(f a\n;c\nb)", 80, "(f a\n   ;c\n   b)\n"},
		{"(f a;b\n;c\n;d\ne)", 80, "(f a ;b\n   ;c\n   ;d\n   e)\n"},
		{"((a)\n;c\nb)", 80, "((a)\n ;c\n b)\n"},
		{"(f (;c\na))", 80, "(f (;c\n    a))\n"},
		{"'(f a\n;c\nb)", 80, "'(f a\n    ;c\n    b)\n"},
	})
}

// TestCloses: P7: where the ")" stands.
func TestCloses(t *testing.T) {
	wantLayouts(t, []good{
		{"(define;c\n)", 80, "(define ;c\n  )\n"},
		{"(define\n;c\n)", 80, "(define\n  ;c\n  )\n"},
		{"(define a;c\n)", 80, "(define a ;c\n  )\n"},
		{"(define a b;c\n)", 80, "(define a\n  b ;c\n  )\n"},
		{"(begin;c\n)", 80, "(begin ;c\n  )\n"},
		{"(begin a\n;c\n)", 80, "(begin\n  a\n  ;c\n  )\n"},
		{"(f a;c\n)", 80, "(f a ;c\n   )\n"},
		{"(f a\n;c\n)", 80, "(f a\n   ;c\n   )\n"},
		{"(fgh a b;c\n)", 80, "(fgh a\n     b ;c\n     )\n"},
		{"(f;c\n)", 80, "(f ;c\n )\n"},
		{"(f\n;c\n)", 80, "(f\n ;c\n )\n"},
		{"(;c\n)", 80, "(;c\n )\n"},
		{"#(;c\n)", 80, "#(;c\n  )\n"},
		{"((a);c\n)", 80, "((a) ;c\n )\n"},
		{"((a;c\n))", 80, "((a ;c\n  ))\n"},
		{"'(;c\n)", 80, "'(;c\n  )\n"},
		{"(f (a;c\n);d\n)", 80, "(f (a ;c\n    ) ;d\n   )\n"},
		{"(f a #|b|#)", 1, "(f a\n   #|b|#)\n"},
		{"(define a\n(f b\n;c\n))", 80, "(define a\n  (f b\n     ;c\n     ))\n"},
	})
}

// TestTails: P7: of an element ahead of a comment, of a last one, and of any other one.
func TestTails(t *testing.T) {
	wantLayouts(t, []good{
		{"((f a b);cc\nd)", 12, "((f a b) ;cc\n d)\n"},
		{"((f a b);cc\nd)", 11, "((f a\n    b) ;cc\n d)\n"},
		{"((f a b)\n;cccccc\nd)", 8, "((f a b)\n ;cccccc\n d)\n"},
		{"((f a b) d)", 8, "((f a b)\n d)\n"},
		{"((f a b) d)", 7, "((f a\n    b)\n d)\n"},
		{"(g x (f a b))", 12, "(g x\n   (f a b))\n"},
		{"(g x (f a b))", 11, "(g x\n   (f a b))\n"},
		{"(g x (f a b))", 10, "(g x\n   (f a\n      b))\n"},
		{"(g x (f a b);c\n)", 13, "(g x\n   (f a b) ;c\n   )\n"},
		{"(g x (f a b);c\n)", 12, "(g x\n   (f a\n      b) ;c\n   )\n"},
		{"(h x (g (f a b)))", 15, "(h x\n   (g (f a b)))\n"},
		{"(h x (g (f a b)))", 14, "(h x\n   (g (f a\n         b)))\n"},
		{"(g x '(f a b))", 12, "(g x\n   '(f a b))\n"},
		{"(g x '(f a b))", 11, "(g x\n   '(f a\n       b))\n"},
		{"(g x (f a b));cc", 15, "(g x\n   (f a b)) ;cc\n"},
		{"(g x (f a b));cc", 14, "(g x\n   (f a\n      b)) ;cc\n"},
		{"(when (f a b) c)", 13, "(when (f a b)\n  c)\n"},
		{"(when (f a b))", 13, "(when (f a\n         b))\n"},
		{"(do (f a b) c)", 9, "(do\n  (f a b)\n  c)\n"},
		{"(do (f a b))", 10, "(do\n  (f a b))\n"},
		{"(do (f a b))", 9, "(do\n  (f a\n     b))\n"},
	})
}

// TestDeepLayouts: P1: as deep as texts may be.
func TestDeepLayouts(t *testing.T) {
	quotes := strings.Repeat("'", api.MaxText-1)
	wantLayouts(t, []good{
		{quotes + "a", 1, quotes + "a\n"},
		{strings.Repeat("(", api.MaxDeep) + strings.Repeat(")", api.MaxDeep), 1, strings.Repeat("(", api.MaxDeep) + strings.Repeat(")", api.MaxDeep) + "\n"},
		{strings.Repeat("a ", api.MaxText/2), 1, strings.Repeat("a\n", api.MaxText/2)},
	})
	head := strings.Repeat("h", api.MaxText/2)
	line := "\n" + strings.Repeat(" ", len(head)+2) + "a"
	wantLayouts(t, []good{
		{"(" + head + strings.Repeat(" a", 1000) + ")", 80, "(" + head + " a" + strings.Repeat(line, 999) + ")\n"},
	})
}

// TestAnswersAreNew: P2: also of a text that stays as it is.
func TestAnswersAreNew(t *testing.T) {
	const text = "(f a)\n"
	got, _, _ := Format(text, 80)
	if got != text || unsafe.StringData(got) == unsafe.StringData(text) {
		t.Errorf("Format(%q, 80) = %q, want it in new memory", text, got)
	}
}
