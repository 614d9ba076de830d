package net

import (
	"strconv"
	"strings"
)

const (
	// maxText is how many bytes a text has at most.
	maxText = 100
	// maxDigits of a number.
	maxDigits = 9
)

// order that a line gives; what its verb has no use for is zero.
type order struct {
	verb string
	who  int
	// number is a quota, or a cell.
	number int
	text   string
	air    air
}

// parse a line; false, if it is no order.
func parse(line string) (order, bool) {
	if line == "tick" {
		return order{verb: line}, true
	}
	verb, rest, _ := strings.Cut(line, " ")
	word, rest, more := strings.Cut(rest, " ")
	who, ok := parseNumber(word)
	if !ok {
		return order{}, false
	}
	o := order{verb: verb, who: who}
	switch verb {
	case "look", "told":
		ok = !more
	case "user", "hand":
		o.number, ok = parseNumber(rest)
	case "send":
		o.text, ok = rest, rest != "" && len(rest) <= maxText
	case "air":
		o.air, ok = parseAir(rest)
	default:
		ok = false
	}
	return o, ok
}

// parseNumber takes a word that is written as the number itself is told: so there is no sign and no nought ahead.
func parseNumber(word string) (int, bool) {
	if len(word) > maxDigits {
		return 0, false
	}
	n, err := strconv.Atoi(word)
	return n, err == nil && n >= 0 && strconv.Itoa(n) == word
}

// parseAir takes a mode, with its number.
func parseAir(mode string) (air, bool) {
	switch mode {
	case "clear":
		return air{}, true
	case "lost":
		return air{lost: true}, true
	case "deaf":
		return air{deaf: true}, true
	}
	word, rough := strings.CutPrefix(mode, "rough ")
	turned, ok := parseNumber(word)
	return air{rough: turned}, rough && ok
}
