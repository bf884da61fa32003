package scan

import (
	"math/rand"
	"slices"
	"strings"
	"testing"

	"tailor/api"
)

// open, shut, atom, prefix, comment and behind make the tokens that the tests want.
func open(text string, place int) api.Token {
	return api.Token{Kind: api.TOpen, Text: text, Place: place}
}

func shut(place int) api.Token {
	return api.Token{Kind: api.TClose, Text: ")", Place: place}
}

func atom(text string, place int) api.Token {
	return api.Token{Kind: api.TAtom, Text: text, Place: place}
}

func prefix(text string, place int) api.Token {
	return api.Token{Kind: api.TPrefix, Text: text, Place: place}
}

func comment(text string, place int) api.Token {
	return api.Token{Kind: api.TComment, Text: text, Place: place}
}

func behind(text string, place int) api.Token {
	return api.Token{Kind: api.TComment, Text: text, Place: place, Behind: true}
}

// good is a text and the tokens that Scan is to answer.
type good struct {
	text string
	want []api.Token
}

func wantTokens(t *testing.T, cases []good) {
	t.Helper()
	for _, c := range cases {
		got, err, place := Scan(c.text)
		if !slices.Equal(got, c.want) || err != api.OK || place != 0 {
			t.Errorf("Scan(%q) = %+v, %d, %d, want %+v", c.text, got, err, place, c.want)
		}
	}
}

// bad is a text and the error and place that Scan is to answer.
type bad struct {
	text  string
	err   api.Errno
	place int
}

func wantErrors(t *testing.T, cases []bad) {
	t.Helper()
	for _, c := range cases {
		got, err, place := Scan(c.text)
		if got != nil || err != c.err || place != c.place {
			t.Errorf("Scan(%q) = %+v, %d, %d, want no tokens, %d, %d", c.text, got, err, place, c.err, c.place)
		}
	}
}

func TestNoTokens(t *testing.T) {
	wantTokens(t, []good{
		{"", nil},
		{" ", nil},
		{"\n", nil},
		{"\t \n\n \t", nil},
	})
}

func TestExample(t *testing.T) {
	wantTokens(t, []good{
		{"(a 'b) ; c ", []api.Token{open("(", 0), atom("a", 1), prefix("'", 3), atom("b", 4), shut(5), behind("; c", 7)}},
	})
}

func TestOpensAndCloses(t *testing.T) {
	wantTokens(t, []good{
		{"()", []api.Token{open("(", 0), shut(1)}},
		{"#()", []api.Token{open("#(", 0), shut(2)}},
		{"(#(\n) )", []api.Token{open("(", 0), open("#(", 1), shut(4), shut(6)}},
		{"a#()", []api.Token{atom("a#", 0), open("(", 2), shut(3)}},
		{"##()", []api.Token{atom("##", 0), open("(", 2), shut(3)}},
		{"# ()", []api.Token{atom("#", 0), open("(", 2), shut(3)}},
	})
}

func TestPrefixes(t *testing.T) {
	wantTokens(t, []good{
		{"'a", []api.Token{prefix("'", 0), atom("a", 1)}},
		{"`a", []api.Token{prefix("`", 0), atom("a", 1)}},
		{",a", []api.Token{prefix(",", 0), atom("a", 1)}},
		{",@a", []api.Token{prefix(",@", 0), atom("a", 2)}},
		{",@ @a", []api.Token{prefix(",@", 0), atom("@a", 3)}},
		{"#;a", []api.Token{prefix("#;", 0), atom("a", 2)}},
		{"'\n\t#;`,,@(a)", []api.Token{prefix("'", 0), prefix("#;", 3), prefix("`", 5), prefix(",", 6), prefix(",@", 7), open("(", 9), atom("a", 10), shut(11)}},
		{"a'b`c,d,@e", []api.Token{atom("a", 0), prefix("'", 1), atom("b", 2), prefix("`", 3), atom("c", 4), prefix(",", 5), atom("d", 6), prefix(",@", 7), atom("e", 9)}},
		{"#'a", []api.Token{atom("#", 0), prefix("'", 1), atom("a", 2)}},
	})
}

func TestPlainAtoms(t *testing.T) {
	wantTokens(t, []good{
		{"a", []api.Token{atom("a", 0)}},
		{" ab\t-1\nx@y ", []api.Token{atom("ab", 1), atom("-1", 4), atom("x@y", 7)}},
		{"#t #\\a #", []api.Token{atom("#t", 0), atom("#\\a", 3), atom("#", 7)}},
		{"a#b a#|b|# x|y", []api.Token{atom("a#b", 0), atom("a#|b|#", 4), atom("x|y", 11)}},
		{"[]{}\\|!~&", []api.Token{atom("[]{}\\|!~&", 0)}},
		{"a(b)c", []api.Token{atom("a", 0), open("(", 1), atom("b", 2), shut(3), atom("c", 4)}},
		{"a\"b\"c", []api.Token{atom("a", 0), atom("\"b\"", 1), atom("c", 4)}},
	})
}

func TestStrings(t *testing.T) {
	wantTokens(t, []good{
		{`""`, []api.Token{atom(`""`, 0)}},
		{`"a b" "c"`, []api.Token{atom(`"a b"`, 0), atom(`"c"`, 6)}},
		{`"a""b"`, []api.Token{atom(`"a"`, 0), atom(`"b"`, 3)}},
		{`"\""`, []api.Token{atom(`"\""`, 0)}},
		{`"\\"a`, []api.Token{atom(`"\\"`, 0), atom("a", 4)}},
		{`"\\\""`, []api.Token{atom(`"\\\""`, 0)}},
		{`"(;#|',` + "`\t" + `"`, []api.Token{atom(`"(;#|',`+"`\t"+`"`, 0)}},
		{`#"a"`, []api.Token{atom("#", 0), atom(`"a"`, 1)}},
	})
	wantErrors(t, []bad{
		{`"`, api.ErrString, 0},
		{`a "b`, api.ErrString, 2},
		{"\"b\n\"", api.ErrString, 0},
		{"a\n (\"b\n\")", api.ErrString, 4},
		{`"\`, api.ErrString, 0},
		{`"\"`, api.ErrString, 0},
		{"\"a\\\nb\"", api.ErrString, 0},
		{`"a""`, api.ErrString, 3},
	})
}

func TestBlockComments(t *testing.T) {
	wantTokens(t, []good{
		{"#||#", []api.Token{atom("#||#", 0)}},
		{"#| a |#", []api.Token{atom("#| a |#", 0)}},
		{"#|a|#b", []api.Token{atom("#|a|#", 0), atom("b", 5)}},
		{"#|a|##|b|#", []api.Token{atom("#|a|#", 0), atom("#|b|#", 5)}},
		{"#|a #|b|# c|# d", []api.Token{atom("#|a #|b|# c|#", 0), atom("d", 14)}},
		{"#|#||##||#|#", []api.Token{atom("#|#||##||#|#", 0)}},
		{"#|#|#|a|#|#|#", []api.Token{atom("#|#|#|a|#|#|#", 0)}},
		{"#|||#", []api.Token{atom("#|||#", 0)}},
		{"#|##|||#|#", []api.Token{atom("#|##|||#|#", 0)}},
		{"#|\"|#", []api.Token{atom("#|\"|#", 0)}},
		{"#|;(|# ;#|", []api.Token{atom("#|;(|#", 0), behind(";#|", 7)}},
	})
	wantErrors(t, []bad{
		{"#|", api.ErrBlock, 0},
		{"#|#", api.ErrBlock, 0},
		{"a #|b|", api.ErrBlock, 2},
		{"#|\n|#", api.ErrBlock, 0},
		{"a\n#|b\n|#", api.ErrBlock, 2},
		{"#|#||#", api.ErrBlock, 0},
		{"#|#|#", api.ErrBlock, 0},
		{"#|#|#|#", api.ErrBlock, 0},
		{"#|#|\n|#|#", api.ErrBlock, 0},
		{"#|a|# #|", api.ErrBlock, 6},
	})
}

func TestComments(t *testing.T) {
	wantTokens(t, []good{
		{";", []api.Token{comment(";", 0)}},
		{";a", []api.Token{comment(";a", 0)}},
		{" ;; a ; b \t \n;\t\n", []api.Token{comment(";; a ; b", 1), comment(";", 13)}},
		{";\"\n;#|\n;(", []api.Token{comment(";\"", 0), comment(";#|", 3), comment(";(", 7)}},
	})
}

func TestBehind(t *testing.T) {
	wantTokens(t, []good{
		{"a;b", []api.Token{atom("a", 0), behind(";b", 1)}},
		{"a \t ;b", []api.Token{atom("a", 0), behind(";b", 4)}},
		{"\"a\";b", []api.Token{atom("\"a\"", 0), behind(";b", 3)}},
		{"#|a|#;b", []api.Token{atom("#|a|#", 0), behind(";b", 5)}},
		{"'a;b", []api.Token{prefix("'", 0), atom("a", 1), behind(";b", 2)}},
		{"a#;b", []api.Token{atom("a#", 0), behind(";b", 2)}},
		{"(\n) ;b", []api.Token{open("(", 0), shut(2), behind(";b", 4)}},
		{"a\n;b", []api.Token{atom("a", 0), comment(";b", 2)}},
		{"(a)\n\t;b", []api.Token{open("(", 0), atom("a", 1), shut(2), comment(";b", 5)}},
		{"( ;b\n)", []api.Token{open("(", 0), comment(";b", 2), shut(5)}},
		{"a #(;b\n)", []api.Token{atom("a", 0), open("#(", 2), comment(";b", 4), shut(7)}},
		{"a ;b\n;c", []api.Token{atom("a", 0), behind(";b", 2), comment(";c", 5)}},
	})
}

func TestTooLong(t *testing.T) {
	full := strings.Repeat("a", api.MaxText)
	wantTokens(t, []good{{full, []api.Token{atom(full, 0)}}})
	wantErrors(t, []bad{
		{full + "a", api.ErrLong, 0},
		{full + "\x00", api.ErrLong, 0},
		{strings.Repeat(" ", api.MaxText+1), api.ErrLong, 0},
	})
}

func TestStrangeBytes(t *testing.T) {
	for c := range 256 {
		text := "a ;" + string([]byte{byte(c)})
		_, err, place := Scan(text)
		if c == '\t' || c == '\n' || c >= 32 && c <= 126 {
			if err != api.OK || place != 0 {
				t.Errorf("Scan(%q) = %d, %d, want OK", text, err, place)
			}
		} else if err != api.ErrByte || place != 3 {
			t.Errorf("Scan(%q) = %d, %d, want ErrByte, 3", text, err, place)
		}
	}
	wantErrors(t, []bad{
		{"\"\x7f\x00", api.ErrByte, 1},
		{") #| \r", api.ErrByte, 5},
		{"\u00e9", api.ErrByte, 0},
	})
}

func TestFirstWrongTokenDecides(t *testing.T) {
	wantErrors(t, []bad{
		{"\"a\n#|", api.ErrString, 0},
		{"#|a\n\"", api.ErrBlock, 0},
		{") ' \"a", api.ErrString, 4},
		{")(#|", api.ErrBlock, 2},
	})
}

func TestOpenLists(t *testing.T) {
	wantErrors(t, []bad{
		{"(", api.ErrOpen, 0},
		{"a #(b", api.ErrOpen, 2},
		{"(a (b) (c", api.ErrOpen, 7},
		{"(a (b (c)) d", api.ErrOpen, 0},
		{"( ;)", api.ErrOpen, 0},
		{"(\")\"", api.ErrOpen, 0},
	})
}

func TestClosedLists(t *testing.T) {
	wantErrors(t, []bad{
		{")", api.ErrClose, 0},
		{"a\n )", api.ErrClose, 3},
		{"(a) (b)))", api.ErrClose, 7},
		{")(", api.ErrClose, 0},
	})
}

func TestDeepLists(t *testing.T) {
	opens := strings.Repeat("(", api.MaxDeep)
	vectors := strings.Repeat("#(", api.MaxDeep)
	shuts := strings.Repeat(")", api.MaxDeep)
	for _, text := range []string{opens + shuts, vectors + shuts, opens + shuts + opens + shuts, opens + "'''a" + shuts} {
		if _, err, place := Scan(text); err != api.OK || place != 0 {
			t.Errorf("Scan(%q) = %d, %d, want OK", text, err, place)
		}
	}
	wantErrors(t, []bad{
		{opens + "()" + shuts, api.ErrDeep, api.MaxDeep},
		{opens + " a #()" + shuts, api.ErrDeep, api.MaxDeep + 3},
		{vectors + "(", api.ErrDeep, 2 * api.MaxDeep},
		{"()" + opens + ")()((", api.ErrDeep, api.MaxDeep + 6},
		{opens, api.ErrOpen, api.MaxDeep - 1},
	})
}

func TestPrefixesAheadOfNothing(t *testing.T) {
	for _, p := range []string{"'", "`", ",", ",@", "#;"} {
		wantErrors(t, []bad{
			{p, api.ErrPrefix, 0},
			{"a " + p + " \n", api.ErrPrefix, 2},
			{"(" + p + ")", api.ErrPrefix, 1},
			{p + " )", api.ErrPrefix, 0},
			{p + " ;b\na", api.ErrPrefix, 0},
			{p + "\n;b\na", api.ErrPrefix, 0},
			{"' " + p, api.ErrPrefix, 2},
		})
		for _, element := range []string{"a", "\"@\"", "#|b|#", "()", "#(@)", "'a", ",@a", "#;a"} {
			if _, err, place := Scan(p + " " + element); err != api.OK || place != 0 {
				t.Errorf("Scan(%q) = %d, %d, want OK", p+" "+element, err, place)
			}
		}
	}
}

func TestCommaAheadOfAt(t *testing.T) {
	wantErrors(t, []bad{
		{", @a", api.ErrPrefix, 0},
		{"(a ,\n@)", api.ErrPrefix, 3},
		{"', @", api.ErrPrefix, 1},
	})
	wantTokens(t, []good{
		{"'@a", []api.Token{prefix("'", 0), atom("@a", 1)}},
		{", a@", []api.Token{prefix(",", 0), atom("a@", 2)}},
		{",'@", []api.Token{prefix(",", 0), prefix("'", 1), atom("@", 2)}},
		{", (@)", []api.Token{prefix(",", 0), open("(", 2), atom("@", 3), shut(4)}},
	})
}

func TestFirstWrongListDecides(t *testing.T) {
	wantErrors(t, []bad{
		{"('))", api.ErrPrefix, 1},
		{") '", api.ErrClose, 0},
		{"(' ", api.ErrPrefix, 1},
		{"'" + strings.Repeat("(", api.MaxDeep+1), api.ErrDeep, api.MaxDeep + 1},
		{strings.Repeat("(", api.MaxDeep) + "')(", api.ErrPrefix, api.MaxDeep},
		{strings.Repeat("(", api.MaxDeep+1) + "'", api.ErrDeep, api.MaxDeep},
	})
}

// TestAnswersAreNew: P2.
func TestAnswersAreNew(t *testing.T) {
	const text = "(a 'b) ;c\n(d)"
	first, _, _ := Scan(text)
	second, _, _ := Scan(text)
	want := slices.Clone(second)
	for i := range first {
		first[i] = api.Token{}
	}
	spare := first[:cap(first)]
	for i := range spare {
		spare[i].Text = "z"
	}
	if third, _, _ := Scan(text); !slices.Equal(second, want) || !slices.Equal(third, want) {
		t.Errorf("answers share room: %+v, %+v, want %+v", second, third, want)
	}
}

// drawText draws a text of pieces that meet in all ways.
func drawText(r *rand.Rand) string {
	pieces := []string{"(", ")", "#", "|", ";", "'", "`", ",", "@", "\"", "\\", "a", " ", "\t", "\n", "(a ", "a)", "#|", "|#", ";b \n", "\"c\"", "\x01"}
	var text strings.Builder
	for range r.Intn(14) {
		text.WriteString(pieces[r.Intn(len(pieces))])
	}
	return text.String()
}

// wantBehind tells from the text alone, and the token ahead, whether a comment is Behind.
func wantBehind(text string, ahead []api.Token, token api.Token) bool {
	line := text[strings.LastIndexByte(text[:token.Place], '\n')+1 : token.Place]
	if token.Kind != api.TComment || strings.Trim(line, " \t") == "" {
		return false
	}
	kind := ahead[len(ahead)-1].Kind
	return kind == api.TAtom || kind == api.TClose
}

// TestDrawnTexts: P1, and that tokens are the text, but for blanks.
func TestDrawnTexts(t *testing.T) {
	r := rand.New(rand.NewSource(1))
	read := 0
	for range 200000 {
		text := drawText(r)
		tokens, err, place := Scan(text)
		if err != api.OK {
			if tokens != nil || place < 0 || place >= len(text) {
				t.Fatalf("Scan(%q) = %+v, %d, %d", text, tokens, err, place)
			}
			continue
		}
		read++
		at := 0
		for i, token := range tokens {
			if token.Place < at || strings.Trim(text[at:token.Place], " \t\n") != "" || token.Text == "" || !strings.HasPrefix(text[token.Place:], token.Text) {
				t.Fatalf("Scan(%q): token %d is %+v", text, i, token)
			}
			if token.Behind != wantBehind(text, tokens[:i], token) {
				t.Fatalf("Scan(%q): token %d is %+v: Behind is wrong", text, i, token)
			}
			at = token.Place + len(token.Text)
		}
		if strings.Trim(text[at:], " \t\n") != "" || place != 0 {
			t.Fatalf("Scan(%q) = %+v, OK, %d", text, tokens, place)
		}
	}
	if read < 10000 {
		t.Errorf("only %d texts could be read", read)
	}
}
