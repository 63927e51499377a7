package scan

import (
	"math"
	"strings"
	"testing"

	"doorstep/octet"
)

// everyByte is a text of all 256 bytes, in order.
func everyByte() string {
	l := make([]byte, 256)
	for n := range l {
		l[n] = byte(n)
	}
	return string(l)
}

// at tells whether a scanner of a text stands at a place, by all that asks without taking.
func at(t *testing.T, what string, c *Scanner, text string, place int) {
	t.Helper()
	if c.At() != place || c.Rest() != text[place:] || c.End() != (place == len(text)) {
		t.Errorf("%s: at %d, rest %q, end %v, want at %d of %q", what, c.At(), c.Rest(), c.End(), place, text)
	}
	b, ok := c.Peek()
	if place == len(text) && (b != 0 || ok) || place < len(text) && (b != text[place] || !ok) {
		t.Errorf("%s: Peek %d, %v at %d of %q", what, b, ok, place, text)
	}
}

// samples is every text of one byte, and some of more.
func samples() []string {
	l := []string{"", "a1 =b", " \t a", "\x00", "\x00\x00a", "\r\n", "\u00e4\u20ac", "\xff\xfe\x80", "key=  42;x", everyByte()}
	for n := range 256 {
		l = append(l, string([]byte{byte(n)}))
	}
	return l
}

// P2.1: a new scanner stands at 0 of its text, whatever its bytes.
func TestNew(t *testing.T) {
	for _, s := range samples() {
		c := New(s)
		if c == nil {
			t.Fatalf("New(%q): nil", s)
		}
		at(t, "New", c, s, 0)
	}
}

// P2.1: what asks takes nothing, however often it asks.
func TestAskingTakesNothing(t *testing.T) {
	for _, s := range samples() {
		c := New(s)
		for range 3 {
			at(t, "again", c, s, 0)
		}
	}
}

// P2.1, P2.2: At, Rest, End and Peek at each place of a text of all bytes, on the way to its end and there; a byte 0 is not the end.
func TestEachPlace(t *testing.T) {
	s := everyByte()
	c := New(s)
	for n := range 256 {
		at(t, "on the way", c, s, n)
		if !c.Byte(byte(n)) {
			t.Fatalf("Byte(%d): false at %d", n, c.At())
		}
	}
	at(t, "behind all", c, s, 256)
	if c.Byte(0) || c.Byte(255) || c.Text("a") || !c.Text("") || c.Blanks() != "" || c.While(always) != "" {
		t.Errorf("at the end there is something left")
	}
	if s, ok := c.Token(); s != "" || ok {
		t.Errorf("Token at the end: %q, %v", s, ok)
	}
	at(t, "still behind all", c, s, 256)
}

func always(byte) bool { return true }
func never(byte) bool  { return false }

// P2.2: Byte takes the next byte if it is that one, of all 256 by all 256.
func TestByte(t *testing.T) {
	for n := range 256 {
		for m := range 256 {
			s := string([]byte{byte(n), byte(n), 'x'})
			c := New(s)
			if got := c.Byte(byte(m)); got != (n == m) {
				t.Errorf("Byte(%d) of %d: %v", m, n, got)
			}
			if n == m {
				at(t, "Byte, taken", c, s, 1)
			} else {
				at(t, "Byte, not taken", c, s, 0)
			}
		}
	}
}

// P2.2: Text takes a text that is next as a whole, and nothing of one that is not.
func TestText(t *testing.T) {
	for _, c := range []struct {
		s, text string
		want    bool
	}{
		{"key=x", "key", true},
		{"key=x", "key=x", true},
		{"key=x", "", true},
		{"", "", true},
		{"\x00a", "\x00", true},
		{"\xff\xfe", "\xff", true},
		{"\r\n", "\r\n", true},
		{"aab", "aa", true},
		{"key=x", "Key", false},
		{"key=x", "ey", false},
		{"key=x", "kez", false},
		{"key=x", "key=xy", false},
		{"aab", "ab", false},
		{"\r", "\r\n", false},
		{"", "a", false},
		{"", "\x00", false},
	} {
		scanner := New(c.s)
		if got := scanner.Text(c.text); got != c.want {
			t.Errorf("Text(%q) of %q: %v", c.text, c.s, got)
		}
		if c.want {
			at(t, "Text, taken", scanner, c.s, len(c.text))
		} else {
			at(t, "Text, not taken", scanner, c.s, 0)
		}
	}
}

// P2.2: Text looks at what is left, not at the text's beginning.
func TestTextFromThePlace(t *testing.T) {
	c := New("abab")
	if !c.Text("ab") || c.Text("abab") || !c.Text("ab") || c.Text("ab") || !c.Text("") {
		t.Errorf("Text of abab, twice")
	}
	at(t, "twice ab", c, "abab", 4)
}

// P2.2: While takes the longest beginning, of none, of some, and of all bytes.
func TestWhile(t *testing.T) {
	for _, c := range []struct {
		s     string
		is    func(b byte) bool
		taken string
	}{
		{"", always, ""},
		{"", never, ""},
		{"abc", always, "abc"},
		{"abc", never, ""},
		{"42;x", octet.IsDigit, "42"},
		{"42", octet.IsDigit, "42"},
		{";42", octet.IsDigit, ""},
		{"4;2", octet.IsDigit, "4"},
		{"\x00\x00\x01", func(b byte) bool { return b == 0 }, "\x00\x00"},
		{"\u00e4\u20aca", func(b byte) bool { return b > 127 }, "\u00e4\u20ac"},
		{everyByte(), func(b byte) bool { return b < 200 }, everyByte()[:200]},
	} {
		scanner := New(c.s)
		if got := scanner.While(c.is); got != c.taken {
			t.Errorf("While of %q: %q, want %q", c.s, got, c.taken)
		}
		at(t, "While", scanner, c.s, len(c.taken))
	}
}

// P2.2: While asks byte by byte of what is left, in order, each once, up to the first one that is not, and that one too.
func TestWhileAsksInOrder(t *testing.T) {
	for _, c := range []struct {
		s           string
		ahead       int
		asked, want string
	}{
		{"", 0, "", ""},
		{"aab=a", 0, "aab=", "aab"},
		{"=a", 0, "=", ""},
		{"aab", 0, "aab", "aab"},
		{"=aab=a", 1, "aab=", "aab"},
		{"=a=", 2, "=", ""},
		{"=a", 2, "", ""},
	} {
		scanner := New(c.s)
		for range c.ahead {
			b, _ := scanner.Peek()
			scanner.Byte(b)
		}
		asked := []byte{}
		got := scanner.While(func(b byte) bool {
			asked = append(asked, b)
			return b != '='
		})
		if got != c.want || string(asked) != c.asked {
			t.Errorf("While of %q from %d: %q, asked %q, want %q, asked %q", c.s, c.ahead, got, asked, c.want, c.asked)
		}
		at(t, "While", scanner, c.s, c.ahead+len(c.want))
	}
}

// P2.2: While hangs on what the question answers at the time, not on the byte alone.
func TestWhileCounts(t *testing.T) {
	c, n := New("aaaaa"), 0
	got := c.While(func(byte) bool { n++; return n <= 3 })
	if got != "aaa" || n != 4 {
		t.Errorf("While of three: %q, asked %d times", got, n)
	}
	at(t, "While of three", c, "aaaaa", 3)
}

// P1: a nil question, or one that panics, is no panic of While; the byte that it was asked of is not taken.
func TestWhileNeverPanics(t *testing.T) {
	for _, s := range []string{"", "ab"} {
		c := New(s)
		if got := c.While(nil); got != "" {
			t.Errorf("While of nil of %q: %q", s, got)
		}
		at(t, "While of nil", c, s, 0)
	}
	c := New("aab")
	got := c.While(func(b byte) bool {
		if b == 'b' {
			panic("b")
		}
		return true
	})
	if got != "aa" {
		t.Errorf("While, where the question panics: %q", got)
	}
	at(t, "While, where the question panics", c, "aab", 2)
}

// P1: a question that moves the scanner itself is no panic either, and the place is behind what was taken.
func TestWhileOfAQuestionThatMoves(t *testing.T) {
	c := New("xaab")
	c.Byte('x')
	got := c.While(func(b byte) bool {
		c.Text("aab")
		return b == 'a'
	})
	if got != "aa" {
		t.Errorf("While, where the question takes: %q", got)
	}
	at(t, "While, where the question takes", c, "xaab", 3)
	c.Back(1)
	got = c.While(func(b byte) bool { return c.Back(0) && b == 'a' })
	if got != "aa" {
		t.Errorf("While, where the question goes back: %q", got)
	}
	at(t, "While, where the question goes back", c, "xaab", 3)
}

// P2.2: Token takes the bytes of a token, of all 256, and says whether there was one.
func TestToken(t *testing.T) {
	for _, c := range []struct{ s, token string }{
		{"", ""},
		{"X-A", "X-A"},
		{"X-A: b", "X-A"},
		{"a b", "a"},
		{"~!#$%&'*+-.^_`|~,", "~!#$%&'*+-.^_`|~"},
		{" a", ""},
		{":a", ""},
		{"\x00a", ""},
		{"a\x7f", "a"},
		{"a\u00e4", "a"},
	} {
		token(t, c.s, c.token)
	}
	for n := range 256 {
		b := string([]byte{byte(n)})
		if octet.IsToken(byte(n)) {
			token(t, b, b)
			token(t, "a"+b+"=", "a"+b)
		} else {
			token(t, b, "")
			token(t, b+"a", "")
			token(t, "a"+b+"a", "a")
		}
	}
}

// token tells whether Token of a text takes what it should.
func token(t *testing.T, s, want string) {
	t.Helper()
	c := New(s)
	if got, ok := c.Token(); got != want || ok != (want != "") {
		t.Errorf("Token of %q: %q, %v, want %q", s, got, ok, want)
	}
	at(t, "Token", c, s, len(want))
}

// P2.2: Blanks takes blanks and tabs, and no other of the 256 bytes: no line's end, and no blank beyond ASCII.
func TestBlanks(t *testing.T) {
	for _, c := range []struct{ s, blanks string }{
		{"", ""},
		{" ", " "},
		{"\t", "\t"},
		{" \t\t  a b", " \t\t  "},
		{"a ", ""},
		{" \r\n ", " "},
		{"\u00a0 ", ""},
	} {
		scanner := New(c.s)
		if got := scanner.Blanks(); got != c.blanks {
			t.Errorf("Blanks of %q: %q, want %q", c.s, got, c.blanks)
		}
		at(t, "Blanks", scanner, c.s, len(c.blanks))
	}
	for n := range 256 {
		s := " " + string([]byte{byte(n)}) + " "
		want := 1
		if n == ' ' || n == '\t' {
			want = 3
		}
		c := New(s)
		if got := c.Blanks(); len(got) != want || got != s[:want] {
			t.Errorf("Blanks of %q: %q", s, got)
		}
		at(t, "Blanks", c, s, want)
	}
}

// P2.2: Back goes to each place from 0 to the present one, and to no other; refused, it leaves the place.
func TestBack(t *testing.T) {
	s := "a1 =b"
	for place := range len(s) + 1 {
		for to := -2; to <= len(s)+2; to++ {
			c := New(s)
			c.Text(s[:place])
			want := to >= 0 && to <= place
			if got := c.Back(to); got != want {
				t.Errorf("Back(%d) at %d: %v", to, place, got)
			}
			if want {
				at(t, "Back", c, s, to)
			} else {
				at(t, "Back, refused", c, s, place)
			}
		}
		c := New(s)
		c.Text(s[:place])
		if c.Back(math.MinInt) || c.Back(math.MaxInt) || c.Back(1<<32) || c.Back(-1<<32) {
			t.Errorf("Back to a place that is not there, at %d", place)
		}
		at(t, "Back, refused", c, s, place)
	}
}

// P2.2: Back is no way forward: the places that were gone back from are not there till they are taken again.
func TestBackTwice(t *testing.T) {
	c := New("abc")
	c.Text("abc")
	if !c.Back(1) || c.Back(2) || c.Back(3) || !c.Back(1) {
		t.Errorf("Back to 1, and from there")
	}
	at(t, "Back to 1", c, "abc", 1)
	if !c.Text("bc") || !c.Back(2) || !c.Back(0) || c.Back(1) {
		t.Errorf("Back behind what was taken again")
	}
	at(t, "Back to 0", c, "abc", 0)
}

// P2.3: a nil scanner answers as one of the empty text, again and again.
func TestNil(t *testing.T) {
	for _, c := range []*Scanner{nil, New("")} {
		for range 2 {
			at(t, "of nothing", c, "", 0)
			if !c.Text("") || c.Text("a") || c.Text("\x00") || c.Byte(0) || c.Byte('a') {
				t.Errorf("Text, Byte of nothing")
			}
			if c.Blanks() != "" || c.While(always) != "" || c.While(nil) != "" {
				t.Errorf("Blanks, While of nothing")
			}
			if c.While(func(byte) bool { t.Errorf("asked of nothing"); return true }) != "" {
				t.Errorf("While of nothing")
			}
			if s, ok := c.Token(); s != "" || ok {
				t.Errorf("Token of nothing: %q, %v", s, ok)
			}
			if !c.Back(0) || c.Back(1) || c.Back(-1) || c.Back(math.MaxInt) || c.Back(math.MinInt) {
				t.Errorf("Back of nothing")
			}
		}
	}
}

// Rule 4: two scanners of one text have each a place of its own.
func TestScannersAreApart(t *testing.T) {
	s := "aab"
	a, b := New(s), New(s)
	a.Byte('a')
	at(t, "the one", a, s, 1)
	at(t, "the other", b, s, 0)
	b.While(always)
	at(t, "the one", a, s, 1)
	at(t, "the other", b, s, 3)
}

// act is a call that takes, and what it should take of what is left, worked out without a scanner.
type act struct {
	name string
	do   func(c *Scanner) string
	want func(rest string) string
}

// acts is all that takes; a byte or text that is next is told as what was taken.
func acts() []act {
	l := []act{
		{"Blanks", (*Scanner).Blanks, func(rest string) string { return beginning(rest, " \t") }},
		{"Token", func(c *Scanner) string { s, _ := c.Token(); return s }, func(rest string) string { return beginning(rest, "ab") }},
		{"While", func(c *Scanner) string { return c.While(func(b byte) bool { return b == 'b' || b == '=' }) }, func(rest string) string { return beginning(rest, "b=") }},
		{"Peek", func(c *Scanner) string { c.Peek(); return "" }, func(string) string { return "" }},
	}
	for _, b := range []byte("ab= \x80") {
		text := string([]byte{b})
		l = append(l, act{"Byte " + text, func(c *Scanner) string { return taken(c.Byte(b), text) }, func(rest string) string { return next(rest, text) }})
	}
	for _, text := range []string{"", "ab", "a= ", "\x80\x80"} {
		l = append(l, act{"Text " + text, func(c *Scanner) string { return taken(c.Text(text), text) }, func(rest string) string { return next(rest, text) }})
	}
	return l
}

func beginning(rest, of string) string { return rest[:len(rest)-len(strings.TrimLeft(rest, of))] }

func next(rest, text string) string { return taken(strings.HasPrefix(rest, text), text) }

func taken(ok bool, text string) string {
	if ok {
		return text
	}
	return ""
}

// texts is every text of at most n bytes of an alphabet.
func texts(alphabet string, n int) []string {
	all, longest := []string{""}, []string{""}
	for range n {
		var longer []string
		for _, s := range longest {
			for i := range len(alphabet) {
				longer = append(longer, s+alphabet[i:i+1])
			}
		}
		all, longest = append(all, longer...), longer
	}
	return all
}

// P2.4: of every short text, by every row of acts: what was taken, one behind the other, and what is left, are the text.
func TestTakenAndLeft(t *testing.T) {
	l := acts()
	for _, s := range texts("ab= \x80", 4) {
		for _, a := range l {
			for _, b := range l {
				for _, d := range l {
					takenAndLeft(t, s, a, b, d)
				}
			}
		}
	}
}

func takenAndLeft(t *testing.T, s string, l ...act) {
	t.Helper()
	c, all := New(s), ""
	for _, a := range l {
		want := a.want(s[len(all):])
		if got := a.do(c); got != want {
			t.Fatalf("%s behind %q of %q: %q, want %q", a.name, all, s, got, want)
		}
		all += want
		if all+c.Rest() != s || c.At() != len(all) {
			t.Fatalf("%s of %q: taken %q, left %q, at %d", a.name, s, all, c.Rest(), c.At())
		}
	}
}

// P2.4: gone back, what was taken up to there, what is taken from there on, and what is left, are the text again.
func TestTakenAndLeftBehindBack(t *testing.T) {
	l := acts()
	for _, s := range texts("ab= ", 3) {
		for _, a := range l {
			for _, b := range l {
				first := a.want(s)
				for to := range len(first) + 1 {
					c := New(s)
					a.do(c)
					if !c.Back(to) {
						t.Fatalf("Back(%d) behind %q of %q: false", to, first, s)
					}
					if again := b.do(c); first[:to]+again+c.Rest() != s || again != b.want(s[to:]) {
						t.Fatalf("%s from %d of %q: taken %q, left %q", b.name, to, s, again, c.Rest())
					}
				}
			}
		}
	}
}

// The chapter's example.
func TestExample(t *testing.T) {
	c := New("a1 =b")
	s, ok := c.Token()
	if s != "a1" || !ok {
		t.Errorf("Token: %q, %v", s, ok)
	}
	if b := c.Blanks(); b != " " {
		t.Errorf("Blanks: %q", b)
	}
	if !c.Byte('=') {
		t.Errorf("Byte =: false")
	}
	if c.Rest() != "b" {
		t.Errorf("Rest: %q", c.Rest())
	}
}
