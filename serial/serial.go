// Package serial is layer 1: it validates and folds serial numbers, computes their check characters, and searches sorted lists of them.
package serial

import (
	"slices"
	"strings"

	"backhaul/api"
)

// The classes of runes.
const (
	other  = 0
	letter = 1
	digit  = 2
	dash   = 3
)

// symbols holds the runes that have a value, each at its value; all of them are ASCII, so that bytes and runes coincide.
const symbols = "0123456789ABCDEFGHIJKLMNOPQRSTUVWXYZ*"

// modulus is that of MOD 37-2: check characters are computed modulo the number of symbols.
const modulus = len(symbols)

// Class returns the class of a rune.
func Class(r rune) int {
	switch {
	case isLower(r), isUpper(r):
		return letter
	case isDigit(r):
		return digit
	case r == '-':
		return dash
	}
	return other
}

// Value returns the value of a rune, and -1 if it has none.
func Value(r rune) int {
	switch {
	case isDigit(r):
		return int(r - '0')
	case isUpper(r):
		return int(r-'A') + 10
	case r == '*':
		return 36
	}
	return -1
}

// Fold returns the serial that a text becomes when its letters are made capitals.
func Fold(s string) (string, api.Errno) {
	if tooLong(s) {
		return "", api.ErrSerial
	}
	var b strings.Builder
	for _, r := range s {
		b.WriteRune(capital(r))
	}
	folded := b.String()
	if e := Check(folded); e != api.OK {
		return "", e
	}
	return folded, api.OK
}

// Check returns OK if a text is a serial as it stands.
func Check(s string) api.Errno {
	if tooLong(s) {
		return api.ErrSerial
	}
	follows := dashesApart()
	for _, r := range s {
		if Class(r) == other || isLower(r) || !follows(r) {
			return api.ErrSerial
		}
	}
	// A dash may stand behind the text just if the text is not empty and does not end with one.
	if !follows('-') {
		return api.ErrSerial
	}
	return api.OK
}

// Mark returns the check character of a serial (ISO 7064, MOD 37-2).
func Mark(s string) (rune, api.Errno) {
	if e := Check(s); e != api.OK {
		return 0, e
	}
	sum := 0
	for _, r := range s {
		if Class(r) != dash {
			sum = (sum + Value(r)) * 2 % modulus
		}
	}
	return rune(symbols[(modulus+1-sum)%modulus]), api.OK
}

// Row returns OK if a list is a sorted list of serials.
func Row(l []string) api.Errno {
	for i, s := range l {
		if e := Check(s); e != api.OK {
			return e
		}
		if i > 0 && s <= l[i-1] {
			return api.ErrDup
		}
	}
	return api.OK
}

// Find returns the index of a text in a list; if the text is missing in a sorted list of serials, the index where it would stand.
func Find(l []string, s string) (int, bool) {
	if Row(l) == api.OK {
		return slices.BinarySearch(l, s)
	}
	if i := slices.Index(l, s); i >= 0 {
		return i, true
	}
	return 0, false
}

// dashesApart returns a function that is given runes in their order and tells of each whether it may follow the one before it.
func dashesApart() func(r rune) bool {
	// The start counts as a dash, because a dash may not be first either.
	previous := '-'
	return func(r rune) bool {
		apart := r != '-' || previous != '-'
		previous = r
		return apart
	}
}

// tooLong counts bytes: the runes of a serial have one byte each, before and after folding.
func tooLong(s string) bool { return len(s) > api.MaxSerial }

func isLower(r rune) bool { return 'a' <= r && r <= 'z' }

func isUpper(r rune) bool { return 'A' <= r && r <= 'Z' }

func isDigit(r rune) bool { return '0' <= r && r <= '9' }

func capital(r rune) rune {
	if isLower(r) {
		return r - 'a' + 'A'
	}
	return r
}
