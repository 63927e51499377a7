// Package octet is layer 1: classes of bytes.
package octet

// The marks of the classes, beside their letters and digits.
const (
	tokenMarks      = "!#$%&'*+-.^_`|~"
	unreservedMarks = "-._~"
	subMarks        = "!$&'()*+,;="
	pathMarks       = ":@"
)

// IsDigit: a digit.
func IsDigit(b byte) bool { return b >= '0' && b <= '9' }

// IsHex: a digit to the base of 16, in letters of either size.
func IsHex(b byte) bool {
	return IsDigit(b) || b >= 'a' && b <= 'f' || b >= 'A' && b <= 'F'
}

// IsAlpha: a letter of ASCII. Bytes above 127 are none, whatever they are as runes.
func IsAlpha(b byte) bool { return b >= 'a' && b <= 'z' || isCapital(b) }

// IsBlank: a blank or a tab. The bytes of line ends are none, so that no reader that passes over blanks leaves its line.
func IsBlank(b byte) bool { return b == ' ' || b == '\t' }

// IsVisible: a byte that is seen.
func IsVisible(b byte) bool { return b >= 33 && b <= 126 }

// IsToken: a token's byte.
func IsToken(b byte) bool { return isLetterOrDigit(b) || has(tokenMarks, b) }

// IsValue: a byte of a field's value. Those above 127 go through as they are: nobody knows what they mean to the other side.
func IsValue(b byte) bool { return IsVisible(b) || IsBlank(b) || b > 127 }

// IsUnreserved: a byte that stands for itself in a URI.
func IsUnreserved(b byte) bool { return isLetterOrDigit(b) || has(unreservedMarks, b) }

// IsSub: a byte that parts a part of a URI.
func IsSub(b byte) bool { return has(subMarks, b) }

// IsPath: a byte of a path. Neither / nor % is one: they part it and begin its escapes, and are looked at by who reads it.
func IsPath(b byte) bool { return IsUnreserved(b) || IsSub(b) || has(pathMarks, b) }

// Lower: a byte, folded. Letters of ASCII alone are folded, so that what is the same does not hang on an alphabet.
func Lower(b byte) byte {
	if isCapital(b) {
		return b - 'A' + 'a'
	}
	return b
}

// Fold: a text, folded byte by byte.
func Fold(s string) string {
	folded := make([]byte, len(s))
	for i := range len(s) {
		folded[i] = Lower(s[i])
	}
	return string(folded)
}

// Same: are two texts the same, folded?
func Same(a, b string) bool { return Fold(a) == Fold(b) }

// All: is each byte of each text so?
func All(is func(b byte) bool, l ...string) (all bool) {
	// The question is the caller's own: a nil one, or one that panics, says of no byte that it is so.
	defer func() {
		if recover() != nil {
			all = false
		}
	}()
	for _, s := range l {
		for i := range len(s) {
			if !is(s[i]) {
				return false
			}
		}
	}
	return true
}

// Token: is a text a token? The empty one is none, though each of its bytes is a token's.
func Token(s string) bool { return s != "" && All(IsToken, s) }

// isCapital: a letter that is folded to another.
func isCapital(b byte) bool { return b >= 'A' && b <= 'Z' }

// isLetterOrDigit: a letter or a digit.
func isLetterOrDigit(b byte) bool { return IsAlpha(b) || IsDigit(b) }

// has: is b one of the marks?
func has(marks string, b byte) bool {
	for i := range len(marks) {
		if marks[i] == b {
			return true
		}
	}
	return false
}
