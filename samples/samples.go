// Package samples makes texts for the layers' tests. No layer calls it, and it calls none: a fault of a layer is not to be handed on to what it is held against.
package samples

import "strings"

const (
	letters = "abcdefghijklmnopqrstuvwxyzABCDEFGHIJKLMNOPQRSTUVWXYZ"
	digits  = "0123456789"
)

// IsLetter: a letter of ASCII.
func IsLetter(b byte) bool { return strings.IndexByte(letters, b) >= 0 }

// IsDigit: a digit.
func IsDigit(b byte) bool { return strings.IndexByte(digits, b) >= 0 }

// IsHex: a digit to the base of 16.
func IsHex(b byte) bool { return strings.IndexByte(digits+"abcdefABCDEF", b) >= 0 }

// IsBlank: a blank or a tab.
func IsBlank(b byte) bool { return b == 9 || b == 32 }

// IsToken: a token's byte.
func IsToken(b byte) bool { return strings.IndexByte(letters+digits+"!#$%&'*+-.^_`|~", b) >= 0 }

// IsValue: a byte of a field's value.
func IsValue(b byte) bool { return b == 9 || b >= 32 && b != 127 }

// IsUnreserved: a byte that stands for itself in a URI.
func IsUnreserved(b byte) bool { return strings.IndexByte(letters+digits+"-._~", b) >= 0 }

// IsSub: a byte that parts a part of a URI.
func IsSub(b byte) bool { return strings.IndexByte("!$&'()*+,;=", b) >= 0 }

// IsPath: a byte of a path that is no mark of it and in no escape.
func IsPath(b byte) bool { return IsUnreserved(b) || IsSub(b) || b == ':' || b == '@' }

// Texts: every row of units up to a length, one behind the other, the empty one first.
func Texts(units []string, most int) []string {
	all := []string{""}
	for i := 0; i < len(all); i++ {
		for _, u := range units {
			if len(all[i])+len(u) <= most {
				all = append(all, all[i]+u)
			}
		}
	}
	return all
}

// Bytes: each byte of an alphabet that is so.
func Bytes(alphabet string, is func(b byte) bool) []string {
	var units []string
	for i := range len(alphabet) {
		if is(alphabet[i]) {
			units = append(units, alphabet[i:i+1])
		}
	}
	return units
}

// Escapes: each escape of an alphabet that has their mark, by its digits.
func Escapes(alphabet string) []string {
	var units []string
	if strings.Contains(alphabet, "%") {
		for _, digits := range Texts(Bytes(alphabet, IsHex), 2) {
			if len(digits) == 2 {
				units = append(units, "%"+digits)
			}
		}
	}
	return units
}

// Each: each byte of an alphabet.
func Each(alphabet string) []string { return Bytes(alphabet, func(byte) bool { return true }) }

// Nearby: every text that is another one but for one byte: each of the 256 ahead of each place and in the stead of the one there, and each left out; and each beginning and each end of it.
func Nearby(s string) []string {
	var all []string
	for i := range len(s) + 1 {
		ahead, behind := s[:i], s[i:]
		rest := behind[min(1, len(behind)):]
		for n := range 256 {
			b := string([]byte{byte(n)})
			all = append(all, ahead+b+behind, ahead+b+rest)
		}
		all = append(all, ahead, behind, ahead+rest)
	}
	return all
}

// Set is texts, to be asked for.
type Set map[string]bool

// SetOf: some texts.
func SetOf(l ...string) Set {
	all := Set{}
	for _, s := range l {
		all[s] = true
	}
	return all
}
