package scan

import (
	"strings"

	"tailor/api"
)

// The blanks within a line, and all bytes of a line that end an atom.
const (
	lineBlanks = " \t"
	atomEnds   = lineBlanks + "()',\";`"
)

// readTokens tells the tokens of a text, or the first error in one and where that token begins.
// It goes line by line, as no token reaches beyond its line.
func readTokens(text string) ([]api.Token, api.Errno, int) {
	var tokens []api.Token
	begin := 0
	for _, line := range strings.Split(text, "\n") {
		more, err, at := readLine(line)
		if err != api.OK {
			return nil, err, begin + at
		}
		for _, token := range more {
			token.Place += begin
			tokens = append(tokens, token)
		}
		begin += len(line) + 1
	}
	return tokens, api.OK, 0
}

// readLine is readTokens for one line, with places that count from its beginning.
func readLine(line string) ([]api.Token, api.Errno, int) {
	var tokens []api.Token
	at := skipBlanks(line, 0)
	for at < len(line) {
		kind, length, err := readToken(line[at:])
		if err != api.OK {
			return nil, err, at
		}
		tokens = append(tokens, api.Token{
			Kind: kind,
			// A copy, so that the answer does not keep the text that was handed in.
			Text:   strings.Clone(line[at : at+length]),
			Place:  at,
			Behind: kind == api.TComment && endsElement(tokens),
		})
		at = skipBlanks(line, at+length)
	}
	return tokens, api.OK, 0
}

// skipBlanks tells the place of the first byte from at on that is no blank.
func skipBlanks(line string, at int) int {
	for at < len(line) && strings.IndexByte(lineBlanks, line[at]) >= 0 {
		at++
	}
	return at
}

// endsElement tells whether the last of a line's tokens is one that a comment can be Behind.
func endsElement(tokens []api.Token) bool {
	if len(tokens) == 0 {
		return false
	}
	kind := tokens[len(tokens)-1].Kind
	return kind == api.TAtom || kind == api.TClose
}

// readToken tells the kind and the length of the token that rest, a line from a token's first byte on, begins with.
func readToken(rest string) (int, int, api.Errno) {
	switch rest[:min(2, len(rest))] {
	case "#(":
		return api.TOpen, 2, api.OK
	case ",@", "#;":
		return api.TPrefix, 2, api.OK
	case "#|":
		return endedAtom(blockLength(rest), api.ErrBlock)
	}
	switch rest[0] {
	case '(':
		return api.TOpen, 1, api.OK
	case ')':
		return api.TClose, 1, api.OK
	case '\'', '`', ',':
		return api.TPrefix, 1, api.OK
	case ';':
		return api.TComment, len(strings.TrimRight(rest, lineBlanks)), api.OK
	case '"':
		return endedAtom(stringLength(rest), api.ErrString)
	}
	return api.TAtom, atomLength(rest), api.OK
}

// endedAtom is readToken's answer for an atom that has an end of its own; its length is 0, if that is not there.
func endedAtom(length int, missing api.Errno) (int, int, api.Errno) {
	if length == 0 {
		return 0, 0, missing
	}
	return api.TAtom, length, api.OK
}

// blockLength tells the length of the block comment that rest begins with; 0, if it does not end.
func blockLength(rest string) int {
	open := 0
	for i := 0; i+2 <= len(rest); i++ {
		switch rest[i : i+2] {
		case "#|":
			open++
			i++ // the marks do not overlap
		case "|#":
			open--
			i++
		}
		if open == 0 {
			return i + 1
		}
	}
	return 0
}

// stringLength tells the length of the string that rest begins with; 0, if it does not end.
func stringLength(rest string) int {
	for i := 1; i < len(rest); i++ {
		switch rest[i] {
		case '\\':
			i++
		case '"':
			return i + 1
		}
	}
	return 0
}

// atomLength tells the length of the plain atom that rest begins with.
func atomLength(rest string) int {
	if end := strings.IndexAny(rest, atomEnds); end >= 0 {
		return end
	}
	return len(rest)
}
