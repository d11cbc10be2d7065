package parse

import "waystone/api"

// verbs are the words of commands; the place of each is its What.
var verbs = [...]string{"", "set", "delete", "show", "compare", "check", "commit", "commit-confirmed", "confirm", "rollback"}

// verbOf tells a word's What; 0: it has none.
func verbOf(word string) int {
	for what, verb := range verbs {
		if verb == word {
			return what
		}
	}
	return 0
}

// verbWord tells a What's word; "": it has none.
func verbWord(what int) string {
	if what < 0 || what >= len(verbs) {
		return ""
	}
	return verbs[what]
}

// headOf tells the head that a word begins, of those that have names.
func headOf(word string) (int, bool) {
	switch word {
	case "area":
		return api.Area, true
	case "interface":
		return api.Interface, true
	}
	return 0, false
}

// headWord tells the word that begins a head; "": it has none.
func headWord(head int) string {
	switch head {
	case api.Area:
		return "area"
	case api.Interface:
		return "interface"
	}
	return ""
}
