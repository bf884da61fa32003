// Package scan: tokens: see DOC.md.
package scan

import "tailor/api"

// Scan tells a text's tokens (P3, P4).
func Scan(text string) ([]api.Token, api.Errno, int) {
	if len(text) > api.MaxText {
		return nil, api.ErrLong, 0
	}
	if place := strangeByte(text); place >= 0 {
		return nil, api.ErrByte, place
	}
	tokens, err, place := readTokens(text)
	if err != api.OK {
		return nil, err, place
	}
	// A wrong token is told ahead of wrong lists, wherever it stands, so lists wait until all tokens are read.
	err, place = checkLists(tokens)
	if err != api.OK {
		return nil, err, place
	}
	return tokens, api.OK, 0
}

// strangeByte tells the place of the first byte that may not stand in a text, or -1.
func strangeByte(text string) int {
	for i := range len(text) {
		c := text[i]
		if c != '\t' && c != '\n' && (c < ' ' || c > '~') {
			return i
		}
	}
	return -1
}
