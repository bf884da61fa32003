package scan

import "tailor/api"

// checkLists tells the first error in how tokens stand as lists, and its place.
func checkLists(tokens []api.Token) (api.Errno, int) {
	var open []int // the places of the lists that are open
	for i, token := range tokens {
		switch token.Kind {
		case api.TOpen:
			if len(open) == api.MaxDeep {
				return api.ErrDeep, token.Place
			}
			open = append(open, token.Place)
		case api.TClose:
			if len(open) == 0 {
				return api.ErrClose, token.Place
			}
			open = open[:len(open)-1]
		case api.TPrefix:
			if !leadsElement(token, tokens[i+1:]) {
				return api.ErrPrefix, token.Place
			}
		}
	}
	if len(open) > 0 {
		return api.ErrOpen, open[len(open)-1]
	}
	return api.OK, 0
}

// leadsElement tells whether a prefix may stand ahead of the first of the tokens that follow it.
func leadsElement(prefix api.Token, following []api.Token) bool {
	if len(following) == 0 {
		return false
	}
	next := following[0]
	switch next.Kind {
	case api.TClose, api.TComment:
		return false
	case api.TAtom:
		// Written without a blank, these two would be read as ",@".
		return prefix.Text != "," || next.Text[0] != '@'
	}
	return true
}
