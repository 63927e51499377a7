package octet

import (
	"slices"
	"strings"
	"testing"
)

const (
	digits  = "0123456789"
	small   = "abcdefghijklmnopqrstuvwxyz"
	capital = "ABCDEFGHIJKLMNOPQRSTUVWXYZ"
	// The bytes from 33 to 126, written out.
	visible = "!\"#$%&'()*+,-./" + digits + ":;<=>?@" + capital + "[\\]^_`" + small + "{|}~"
)

type class struct {
	name string
	is   func(b byte) bool
	all  string
}

// above is the bytes above 127.
func above() string {
	var l []byte
	for n := 128; n < 256; n++ {
		l = append(l, byte(n))
	}
	return string(l)
}

func classes() []class {
	unreserved := small + capital + digits + "-._~"
	return []class{
		{"IsDigit", IsDigit, digits},
		{"IsHex", IsHex, digits + "abcdef" + "ABCDEF"},
		{"IsAlpha", IsAlpha, small + capital},
		{"IsBlank", IsBlank, " \t"},
		{"IsVisible", IsVisible, visible},
		{"IsToken", IsToken, small + capital + digits + "!#$%&'*+-.^_`|~"},
		{"IsValue", IsValue, visible + " \t" + above()},
		{"IsUnreserved", IsUnreserved, unreserved},
		{"IsSub", IsSub, "!$&'()*+,;="},
		{"IsPath", IsPath, unreserved + "!$&'()*+,;=" + ":@"},
	}
}

// P1.1: each class against its bytes written out, for all 256.
func TestClasses(t *testing.T) {
	for _, c := range classes() {
		for n := range 256 {
			if got, want := c.is(byte(n)), strings.IndexByte(c.all, byte(n)) >= 0; got != want {
				t.Errorf("%s(%d): %v, want %v", c.name, n, got, want)
			}
		}
	}
}

// P1.1: how many bytes each class has; the texts of TestClasses must not have lost one.
func TestClassSizes(t *testing.T) {
	sizes := map[string]int{
		"IsDigit": 10, "IsHex": 22, "IsAlpha": 52, "IsBlank": 2, "IsVisible": 94,
		"IsToken": 77, "IsValue": 94 + 2 + 128, "IsUnreserved": 66, "IsSub": 11, "IsPath": 79,
	}
	for _, c := range classes() {
		n := 0
		for b := range 256 {
			if c.is(byte(b)) {
				n++
			}
		}
		if n != sizes[c.name] {
			t.Errorf("%s has %d bytes, want %d", c.name, n, sizes[c.name])
		}
	}
}

// P1.1: the first and the last byte of each row of bytes, and those beside them, by their numbers.
func TestClassEdges(t *testing.T) {
	tests := []struct {
		name    string
		is      func(b byte) bool
		in, out []byte
	}{
		{"IsDigit", IsDigit, []byte{48, 57}, []byte{0, 47, 58, 127, 128, 255}},
		{"IsHex", IsHex, []byte{48, 57, 65, 70, 97, 102}, []byte{0, 47, 58, 64, 71, 96, 103, 128, 255}},
		{"IsAlpha", IsAlpha, []byte{65, 90, 97, 122}, []byte{0, 64, 91, 96, 123, 128, 193, 225, 255}},
		{"IsBlank", IsBlank, []byte{9, 32}, []byte{0, 8, 10, 11, 12, 13, 31, 33, 128, 133, 160, 255}},
		{"IsVisible", IsVisible, []byte{33, 126}, []byte{0, 9, 32, 127, 128, 255}},
		{"IsToken", IsToken, []byte{33, 35, 39, 42, 43, 45, 46, 48, 57, 65, 90, 94, 122, 124, 126}, []byte{0, 9, 32, 34, 40, 41, 44, 47, 58, 64, 91, 93, 123, 125, 127, 128, 255}},
		{"IsValue", IsValue, []byte{9, 32, 33, 126, 128, 255}, []byte{0, 8, 10, 13, 31, 127}},
		{"IsUnreserved", IsUnreserved, []byte{45, 46, 48, 57, 65, 90, 95, 97, 122, 126}, []byte{0, 32, 33, 37, 43, 44, 47, 58, 64, 91, 96, 123, 125, 127, 128, 255}},
		{"IsSub", IsSub, []byte{33, 36, 38, 44, 59, 61}, []byte{0, 32, 34, 35, 37, 45, 46, 58, 60, 62, 63, 64, 128, 255}},
		{"IsPath", IsPath, []byte{33, 36, 38, 46, 48, 57, 58, 59, 61, 64, 90, 95, 122, 126}, []byte{0, 32, 34, 35, 37, 47, 60, 62, 63, 91, 94, 96, 123, 124, 127, 128, 255}},
	}
	for _, c := range tests {
		for _, b := range c.in {
			if !c.is(b) {
				t.Errorf("%s(%d): false", c.name, b)
			}
		}
		for _, b := range c.out {
			if c.is(b) {
				t.Errorf("%s(%d): true", c.name, b)
			}
		}
	}
}

// P1.2: Lower of all 256 bytes: the 26 capitals alone become others.
func TestLower(t *testing.T) {
	for n := range 256 {
		want := byte(n)
		if i := strings.IndexByte(capital, want); i >= 0 {
			want = small[i]
		}
		if got := Lower(byte(n)); got != want {
			t.Errorf("Lower(%d): %d, want %d", n, got, want)
		}
	}
}

// P1.2: Fold keeps every byte that is no capital, those of runes too.
func TestFold(t *testing.T) {
	for _, c := range []struct{ s, want string }{
		{"", ""},
		{"A", "a"},
		{"Z", "z"},
		{"AbZ[@", "abz[@"},
		{"Content-Length", "content-length"},
		{"already small 09", "already small 09"},
		{"@[`{", "@[`{"},
		{"A\x00B\r\nC\x7fD", "a\x00b\r\nc\x7fd"},
		{"\xc1\xe1\x80\xffQ", "\xc1\xe1\x80\xffq"},
		{"\u00c4\u0130\u212aK", "\u00c4\u0130\u212ak"},
	} {
		if got := Fold(c.s); got != c.want {
			t.Errorf("Fold(%q): %q, want %q", c.s, got, c.want)
		}
	}
	if got := Fold(capital + capital); got != small+small {
		t.Errorf("Fold of the capitals: %q", got)
	}
}

// P1.2: Same does not look at the size of letters, and at everything else.
func TestSame(t *testing.T) {
	for _, c := range []struct {
		a, b string
		want bool
	}{
		{"Host", "hOST", true},
		{"", "", true},
		{"A\xffZ", "a\xffz", true},
		{"x-a", "x-a", true},
		{"", "a", false},
		{"a", "", false},
		{"host", "hos", false},
		{"hos", "host", false},
		{"host", "bost", false},
		{"host", "hosa", false},
		{"a", "@", false},
		{"@", "`", false},
		{"[", "{", false},
		{"Z", "[", false},
		{"\xc4", "\xe4", false},
		{"k", "\u212a", false},
		{"s", "\u017f", false},
		{"a", "a\x00", false},
	} {
		if got := Same(c.a, c.b); got != c.want {
			t.Errorf("Same(%q, %q): %v", c.a, c.b, got)
		}
	}
}

// P1.2: All over texts as many as there are; of none, and of empty ones, it is true.
func TestAll(t *testing.T) {
	never := func(byte) bool { return false }
	for _, c := range []struct {
		is   func(b byte) bool
		l    []string
		want bool
	}{
		{never, nil, true},
		{never, []string{}, true},
		{never, []string{""}, true},
		{never, []string{"", "", ""}, true},
		{never, []string{"", "a"}, false},
		{IsDigit, []string{"12", "", "3"}, true},
		{IsDigit, []string{"x12"}, false},
		{IsDigit, []string{"1x2"}, false},
		{IsDigit, []string{"12x"}, false},
		{IsDigit, []string{"12", "", "x"}, false},
		{IsDigit, []string{"x", "12"}, false},
		{IsDigit, []string{"1", "x", "2"}, false},
		{IsValue, []string{"a\x80\xff"}, true},
		{IsValue, []string{"a\x80\x7f"}, false},
		{func(b byte) bool { return b >= 128 }, []string{"\u00e4", above()}, true},
	} {
		if got := All(c.is, c.l...); got != c.want {
			t.Errorf("All(.., %q): %v", c.l, got)
		}
	}
}

// P1.2: All asks byte by byte, in order, each once, until one is not.
func TestAllAsksInOrder(t *testing.T) {
	for _, c := range []struct {
		stop  string
		l     []string
		asked string
		want  bool
	}{
		{"", []string{"ab", "", "c\xff", "aa"}, "abc\xffaa", true},
		{"a", []string{"abc", "d"}, "a", false},
		{"b", []string{"abc", "d"}, "ab", false},
		{"c", []string{"ab", "", "cd", "e"}, "abc", false},
		{"e", []string{"ab", "cd", "e"}, "abcde", false},
		{"z", nil, "", true},
	} {
		asked := []byte{}
		got := All(func(b byte) bool {
			asked = append(asked, b)
			return strings.IndexByte(c.stop, b) < 0
		}, c.l...)
		if got != c.want || string(asked) != c.asked {
			t.Errorf("All until one of %q of %q: %v, asked %q, want %q", c.stop, c.l, got, asked, c.asked)
		}
	}
}

// P1: a nil question, or one that panics, is no panic of All; it says of no byte that it is so.
func TestAllNeverPanics(t *testing.T) {
	if !All(nil) || !All(nil, "", "") {
		t.Errorf("All of nothing, asked of nil: false")
	}
	if All(nil, "a") || All(nil, "", "ab") {
		t.Errorf("All, asked of nil: true")
	}
	asked := []byte{}
	got := All(func(b byte) bool {
		asked = append(asked, b)
		if b == 'b' {
			panic("b")
		}
		return true
	}, "ab", "c")
	if got || string(asked) != "ab" {
		t.Errorf("All, where the question panics: %v, asked %q", got, asked)
	}
}

// Rule 4: what is handed in is not changed.
func TestAllKeepsItsTexts(t *testing.T) {
	l := []string{"12", "", "X", "3"}
	All(IsDigit, l...)
	if !slices.Equal(l, []string{"12", "", "X", "3"}) {
		t.Errorf("All changed its texts: %q", l)
	}
}

// P1.2: Token is one byte or more, each a token's.
func TestToken(t *testing.T) {
	for _, s := range []string{"X-A", "a", "~", "!#$%&'*+-.^_`|~", small + capital + digits, "a~"} {
		if !Token(s) {
			t.Errorf("Token(%q): false", s)
		}
	}
	for _, s := range []string{"", " ", "a b", " a", "a ", "a\t", "a:", "(a", "a/1.1", "\"a\"", "a\x00", "a\x7f", "a\x80", "\u00e4", "a\r\n", "a,b"} {
		if Token(s) {
			t.Errorf("Token(%q): true", s)
		}
	}
	for n := range 256 {
		if s := string([]byte{byte(n)}); Token(s) != IsToken(byte(n)) {
			t.Errorf("Token(%q): %v", s, Token(s))
		}
	}
}

// samples is every text of one byte, and some of more.
func samples() []string {
	l := []string{"", "host", "Host", "hOST", "HOST", "hos", "host ", "x-a", "X-A", "\u00e4", "\u00c4", visible, capital, small, above()}
	for n := range 256 {
		l = append(l, string([]byte{byte(n)}))
	}
	return l
}

// P1.3: Fold of Fold is Fold.
func TestFoldTwice(t *testing.T) {
	for _, s := range samples() {
		if once := Fold(s); Fold(once) != once {
			t.Errorf("Fold of Fold of %q: %q, and not %q", s, Fold(once), once)
		}
	}
}

// P1.3: Same is an equality: each with itself, both ways round, and through a third.
func TestSameIsAnEquality(t *testing.T) {
	l := samples()
	for _, a := range l {
		if !Same(a, a) || !Same(a, Fold(a)) {
			t.Errorf("%q is not the same as itself, or as itself folded", a)
		}
		var same []string
		for _, b := range l {
			if Same(a, b) != Same(b, a) {
				t.Errorf("Same of %q and %q hangs on their order", a, b)
			}
			if Same(a, b) {
				same = append(same, b)
			}
		}
		for _, b := range same {
			for _, c := range l {
				if Same(b, c) && !slices.Contains(same, c) {
					t.Errorf("Same of %q and %q, of %q and %q, not of %q and %q", a, b, b, c, a, c)
				}
			}
		}
	}
}

// The chapter's examples.
func TestExamples(t *testing.T) {
	if !Same("Host", "hOST") {
		t.Errorf("Same of Host and hOST: false")
	}
	if !Token("X-A") || Token("") {
		t.Errorf("Token of X-A: %v, of the empty text: %v", Token("X-A"), Token(""))
	}
}
