package fieldline

import (
	"regexp"
	"strings"
	"testing"

	"doorstep/api"
	"doorstep/samples"
)

// field is a field, of its name and its value.
func field(name, value string) api.Field { return api.Field{Name: name, Value: value} }

// parsed tells whether Parse of a text answers a field.
func parsed(t *testing.T, s string, want api.Field) {
	t.Helper()
	if f, e := Parse(s); f != want || e != api.OK {
		t.Errorf("Parse of %.80q: %.60q, %d, want %.60q", s, f, e, want)
	}
}

// refused tells whether Parse refuses a text by an error.
func refused(t *testing.T, s string, want api.Errno) {
	t.Helper()
	if f, e := Parse(s); f != (api.Field{}) || e != want {
		t.Errorf("Parse of %.80q: %.60q, %d, want %d", s, f, e, want)
	}
}

// written tells whether a field may be, and Text of it answers a text.
func written(t *testing.T, f api.Field, want string) {
	t.Helper()
	if e := Check(f); e != api.OK {
		t.Errorf("Check of %.60q: %d", f, e)
	}
	if s, e := Text(f); s != want || e != api.OK {
		t.Errorf("Text of %.60q: %.80q, %d, want %.80q", f, s, e, want)
	}
}

// unwritten tells whether Check and Text refuse a field by an error.
func unwritten(t *testing.T, f api.Field, want api.Errno) {
	t.Helper()
	if e := Check(f); e != want {
		t.Errorf("Check of %.60q: %d, want %d", f, e, want)
	}
	if s, e := Text(f); s != "" || e != want {
		t.Errorf("Text of %.60q: %.80q, %d, want %d", f, s, e, want)
	}
}

const (
	allTokens = "abcdefghijklmnopqrstuvwxyzABCDEFGHIJKLMNOPQRSTUVWXYZ0123456789!#$%&'*+-.^_`|~"
	allSeen   = "!\"#$%&'()*+,-./0123456789:;<=>?@ABCDEFGHIJKLMNOPQRSTUVWXYZ[\\]^_`abcdefghijklmnopqrstuvwxyz{|}~"
)

// sample is a line, its field, and the line that the field is written as.
type sample struct {
	s    string
	f    api.Field
	line string
}

// lines are lines of fields, with all that is told of them.
var lines = []sample{
	{"A:", field("A", ""), "A:"}, {"a:", field("a", ""), "a:"}, {"A: ", field("A", ""), "A:"}, {"A:\t", field("A", ""), "A:"}, {"A: \t \t\t  ", field("A", ""), "A:"}, {"0:", field("0", ""), "0:"}, {"-:", field("-", ""), "-:"}, {"':", field("'", ""), "':"}, {"a.b|c~d:", field("a.b|c~d", ""), "a.b|c~d:"},
	{"A:b", field("A", "b"), "A: b"}, {"A: b", field("A", "b"), "A: b"}, {"A:\tb", field("A", "b"), "A: b"}, {"A:  b", field("A", "b"), "A: b"}, {"A: \t b \t", field("A", "b"), "A: b"}, {"A:b ", field("A", "b"), "A: b"}, {"A:b\t", field("A", "b"), "A: b"}, {"A: b ", field("A", "b"), "A: b"}, {"a:B", field("a", "B"), "a: B"},
	{"A:b c", field("A", "b c"), "A: b c"}, {"A:b  c", field("A", "b  c"), "A: b  c"}, {"A:b\tc", field("A", "b\tc"), "A: b\tc"}, {"A: \tb \t c\t ", field("A", "b \t c"), "A: b \t c"}, {"A: b , c ", field("A", "b , c"), "A: b , c"},
	{"A::", field("A", ":"), "A: :"}, {"A: :", field("A", ":"), "A: :"}, {"A:b:c", field("A", "b:c"), "A: b:c"}, {"A:b :c", field("A", "b :c"), "A: b :c"}, {"A: : b", field("A", ": b"), "A: : b"}, {"A:b:", field("A", "b:"), "A: b:"}, {"A:B: c", field("A", "B: c"), "A: B: c"},
	{"Host: a.example:80", field("Host", "a.example:80"), "Host: a.example:80"}, {"X-A:  b", field("X-A", "b"), "X-A: b"}, {"Content-Length:5, 05", field("Content-Length", "5, 05"), "Content-Length: 5, 05"}, {"Via: 1.1 a (b\\)c)", field("Via", "1.1 a (b\\)c)"), "Via: 1.1 a (b\\)c)"}, {"Set-Cookie: a=\"b\"; Path=/", field("Set-Cookie", "a=\"b\"; Path=/"), "Set-Cookie: a=\"b\"; Path=/"},
	{"A:\x80", field("A", "\x80"), "A: \x80"}, {"A: \xff ", field("A", "\xff"), "A: \xff"}, {"A: \u00e4\u00df", field("A", "\u00e4\u00df"), "A: \u00e4\u00df"}, {"A:\x85", field("A", "\x85"), "A: \x85"}, {"A:\xa0b\xa0", field("A", "\xa0b\xa0"), "A: \xa0b\xa0"}, {"A: \u0085 ", field("A", "\u0085"), "A: \u0085"}, {"A: \u00a0b\u2003 ", field("A", "\u00a0b\u2003"), "A: \u00a0b\u2003"}, {"A: \u2028", field("A", "\u2028"), "A: \u2028"}, {"A: \ufeffb", field("A", "\ufeffb"), "A: \ufeffb"},
	{allTokens + ":" + allSeen, field(allTokens, allSeen), allTokens + ": " + allSeen},
}

// P12.1: lines of fields, with and without values, blanks and tabs about these, and colons in them.
func TestParse(t *testing.T) {
	for _, c := range lines {
		parsed(t, c.s, c.f)
	}
}

// wrongs are texts that are no lines of fields, by their errors. Of some, errors that come later in the order would be right, too.
var wrongs = map[api.Errno][]string{
	api.ErrBare: {
		"\r", "\n", "\r\n", "A: b\r", "A: b\n", "A: b\r\n", "A: b\n\r", "A:\r", "A:\n", "A\r:", "A\n: b", "A\r\n: b", "\rA: b", "\nA: b", "A: b\rc", "A: b\nc", "A: b\r\n c", "A: b\r\nC: d", "A: b\r\r\n",
		" A: b\r", "\tA: b\n", " \n", "\t\r", "\n A: b", "\r\tA", "a b\n", "A\r", "\nA", ":\n", ":\r", "A :b\n", "A\t:\r", "A \r:b", "A: \x00\n", "A: \r\x7f", "\x00\n", " : \x00\r",
	},
	api.ErrFold: {
		" ", "\t", "  ", "\t \t", " A: b", "\tA: b", " \tA:", " A", "\tb c", " :", "\t:", " : b", " A :", "\tA\t: b", " A: \x00", " \x00", "\t(", " \xff", "  A", " A: b:c",
	},
	api.ErrName: {
		"", "A", "A b", "A\t", "A ", "b c", "a=b", "\x00", "\xff", "(", "HTTP/1.1 200 OK", "GET / HTTP/1.1", "A;", "A=", "A\u2236b", "A\uff1ab", "A \x00", "\u00a0", "\u2003",
		":", "::", ": ", ":\t", ": b", ":b", ": A: b", ":\x00", ":A:b", ": \x7f",
		"A b: c", "A\tb: c", "A  b:", "A b :", "A b : c", "A b: \x00", "A (b): c", "(A): b", "(b) A: c", "A(: b", "A): b", "A,: b", "A/: b", "A;: b", "A;b: c", "A<: b", "A=: b", "A=b: c", "A>: b", "A?: b", "A@: b", "A@b: c", "[A]: b", "A[0]: b", "A\\: b", "A{: b", "A}: b", "\"A\": b", "A\": b", "/:", "/: b", "http/s://a",
		"A\x00: b", "\x00: b", "\x00A: b", "A\x7f: b", "A\x0b: b", "A\x0c: b", "\x0bA: b", "\x0c: b", "A \x0b: b", "A\x0b : b", "\x80: b", "\xff: b", "A\x80: b", "\u00e4: b", "A\u00e4: b", "\u00a0A: b", "A\u00a0: b", "A\u00a0 : b", "A\u2003: b", "\ufeffA: b", "\u212a: b", "\u017f: b", "\x00 : b", "(\t: b", "A(b) : \x00", "A/b\t:", "\x1b: \x00",
	},
	api.ErrSpace: {
		"A :", "A\t:", "A  :", "A\t\t:", "A \t:", "A\t : b", "A : b", "Host : a", "A :b", "A \t \t: b", "A ::", "A :b:c", "A : \x00", "A :\x7f", "A\t:\x00", "a : (", "A : \xff", "Content-Length : 5", "A :A :", "0 :", "~\t:", allTokens + " : " + allSeen,
	},
	api.ErrValue: {
		"A:\x00", "A: \x00", "A: \x00 ", "A:\x01", "A: b\x00", "A:\x00b", "A: b\x00c", "A: b \x00", "A:\x00 b", "A:\x07", "A: \x08", "A:\x0b", "A: b\x0b", "A:\x0bb", "A: \x0c", "A: b\x0c", "A: \x0b ", "A: b \x0c\t", "A:\x0e", "A:\x1b", "A: \x1b[0m", "A:\x1f", "A: b\x1fc", "A:\x7f", "A: b\x7f", "A:\x7fb", "A: \xff\x00", "A: \u00e4\x7f", "A::\x00", "A:b:\x00", "A:\t\x00\t", "Host: a\x00.example",
	},
}

// P12.1: what is no line of a field; of several errors the first one is told.
func TestParseOfWrong(t *testing.T) {
	for e, l := range wrongs {
		for _, s := range l {
			refused(t, s, e)
		}
	}
}

// Regular expressions that say the document's words once more, of the runes of which bytes are the numbers.
var (
	bareWords  = regexp.MustCompile(`[\x0d\x0a]`)
	foldWords  = regexp.MustCompile(`^[ \x09]`)
	nameWords  = regexp.MustCompile("^([A-Za-z0-9!#$%&'*+\\-.^_`|~]+)([ \\x09]*):")
	valueWords = regexp.MustCompile(`^[^:]*:[ \x09]*((?:[\x21-\x7e\x{80}-\x{ff}](?:[\x09\x20-\x7e\x{80}-\x{ff}]*[\x21-\x7e\x{80}-\x{ff}])?)?)[ \x09]*$`)
)

// runes is a text of which each rune is a byte of another, so that words of runes can be said of bytes.
func runes(s string) string {
	l := make([]rune, len(s))
	for i := range len(s) {
		l[i] = rune(s[i])
	}
	return string(l)
}

// bytes is the text of which runes is told.
func bytes(s string) string {
	var l []byte
	for _, r := range s {
		l = append(l, byte(r))
	}
	return string(l)
}

// byWords is the field of a line, or its error, by the document's words.
func byWords(s string) (api.Field, api.Errno) {
	s = runes(s)
	name, value := nameWords.FindStringSubmatch(s), valueWords.FindStringSubmatch(s)
	switch {
	case bareWords.MatchString(s):
		return api.Field{}, api.ErrBare
	case foldWords.MatchString(s):
		return api.Field{}, api.ErrFold
	case name == nil:
		return api.Field{}, api.ErrName
	case name[2] != "":
		return api.Field{}, api.ErrSpace
	case value == nil:
		return api.Field{}, api.ErrValue
	}
	return field(name[1], bytes(value[1])), api.OK
}

// lineByWords is the line of a field, by the document's words, whether or not it may be.
func lineByWords(f api.Field) string {
	if f.Value == "" {
		return f.Name + ":"
	}
	return f.Name + ": " + f.Value
}

// heldAgainstWords tells whether Parse of a text answers what the document's words say; whether what is parsed is written as its line, and that parsed again. It answers what it is told.
func heldAgainstWords(t *testing.T, s string) api.Errno {
	t.Helper()
	want, e := byWords(s)
	if e != api.OK {
		refused(t, s, e)
		return e
	}
	line := lineByWords(want)
	parsed(t, s, want)
	written(t, want, line)
	parsed(t, line, want)
	return e
}

// P12.1: the words' own reader tells of the samples what they are, so that it is to be leant on.
func TestWords(t *testing.T) {
	for _, c := range lines {
		if f, e := byWords(c.s); f != c.f || e != api.OK {
			t.Errorf("by the words %q is %q, %d", c.s, f, e)
		}
		if s := lineByWords(c.f); s != c.line {
			t.Errorf("by the words the line of %q is %q", c.f, s)
		}
	}
	for want, l := range wrongs {
		for _, s := range l {
			if f, e := byWords(s); f != (api.Field{}) || e != want {
				t.Errorf("by the words %q is %q, %d, want %d", s, f, e, want)
			}
		}
	}
}

// P12.1, P12.3: Parse of every short text, behind nothing and behind what lines begin with, against the document's words.
func TestParseOfEveryShortText(t *testing.T) {
	for _, c := range []struct {
		ahead []string
		bytes string
		most  int
		told  int // how many of OK and the five errors come of these
	}{
		{[]string{""}, "A: \t\n\x00", 6, 6}, {[]string{""}, "A:\t(\r\xff", 6, 5}, {[]string{""}, "a: ", 10, 4}, {[]string{""}, ":\t\x0b-\x7f", 7, 5}, {[]string{""}, "b \xa0:\x0c", 7, 5},
		{[]string{"A:", "A: ", "A:b", "A:b\t", "A::"}, " \tb:\x00\x85", 5, 2}, {[]string{"A", "A ", "A(", "A\t:"}, ": \tb\x7f", 6, 4}, {[]string{" ", "\t", " A:", "\tA"}, "A: \n\x00", 5, 2}, {[]string{":", ": ", "(:", "\x80:"}, "A:\t\r\x00", 5, 2},
	} {
		told := map[api.Errno]bool{}
		for _, ahead := range c.ahead {
			for _, s := range samples.Texts(samples.Each(c.bytes), c.most) {
				if t.Failed() {
					return
				}
				told[heldAgainstWords(t, ahead+s)] = true
			}
		}
		if len(told) != c.told {
			t.Errorf("%q behind %q: %v", c.bytes, c.ahead, told)
		}
	}
}

// P12.1: each of the 256 bytes at each place of lines, in the stead of the one there and ahead of it, and each of these left out, against the document's words.
func TestEachByteAtEachPlace(t *testing.T) {
	for _, s := range []string{"X-A: b c", "a:b", "A:", "A: \t b\t:\tc \t", "A\t : b", "Host:[::1]:80", " A: b", "A b: c", ": b", "A: b\x00", "A: b\r", "A", " ", ""} {
		for _, nearby := range samples.Nearby(s) {
			heldAgainstWords(t, nearby)
		}
	}
}

// P12.1, P12.2: each of the 256 bytes in names and values, by the lists of bytes themselves.
func TestEachByte(t *testing.T) {
	for n := range 256 {
		b := string([]byte{byte(n)})
		for _, name := range []string{b, b + "x", "x" + b, "x" + b + "y", b + b} {
			if samples.IsToken(byte(n)) {
				parsed(t, name+": v", field(name, "v"))
				written(t, field(name, "v"), name+": v")
			} else {
				unwritten(t, field(name, "v"), api.ErrName)
				unwritten(t, field(name, "\x00"), api.ErrName)
			}
		}
		inside := "x" + b + "y"
		if samples.IsValue(byte(n)) {
			parsed(t, "A:"+inside, field("A", inside))
			written(t, field("A", inside), "A: "+inside)
		} else {
			unwritten(t, field("A", inside), api.ErrValue)
		}
		for _, value := range []string{b, b + "x", "x" + b, b + b, b + "x" + b} {
			if samples.IsValue(byte(n)) && !samples.IsBlank(byte(n)) {
				parsed(t, "A:"+value, field("A", value))
				written(t, field("A", value), "A: "+value)
			} else {
				unwritten(t, field("A", value), api.ErrValue)
			}
		}
	}
}

// P12.2, P12.3: the line of each field; parsed, it is the field.
func TestText(t *testing.T) {
	for _, c := range lines {
		written(t, c.f, c.line)
		parsed(t, c.line, c.f)
	}
}

// P12.2: fields that may not be; of both errors the name's is told.
func TestTextOfWrong(t *testing.T) {
	for _, name := range []string{"", " ", "\t", " A", "A ", "\tA", "A\t", "A b", "A:", ":", ":A", "A: b", "A:b", "A\r", "A\n", "A\r\n", "\nA", "\x00", "A\x00", "(", "A(b)", "A,", "A/b", "A;", "A=b", "A@b", "[A]", "\"A\"", "\\", "{}", "\x7f", "\x80", "A\xff", "\u00e4", "\u212a", "A\u00a0"} {
		for _, value := range []string{"", "b", " b", "b ", "\t", "b\r\nC: d", "\x00", "\xff"} {
			unwritten(t, field(name, value), api.ErrName)
		}
	}
	for _, value := range []string{" ", "\t", "  ", " \t", " b", "b ", "\tb", "b\t", " b ", "  b", "b  ", " b c", "b c\t", "\r", "\n", "\r\n", "b\r", "b\n", "\rb", "\nb", "b\rc", "b\nc", "b\r\nC: d", "b\r\n c", "b\r\n\r\n", "\x00", "b\x00", "\x00b", "b\x00c", "\x01", "\x08", "\x0b", "\x0c", "b\x0b", "\x0cb", "\x1b", "\x1f", "b\x1fc", "\x7f", "b\x7f", " \x00", "\x00 ", "\xff\x00", "\xff ", "\t\xa0"} {
		for _, name := range []string{"A", "a-b", "Host", allTokens} {
			unwritten(t, field(name, value), api.ErrValue)
		}
	}
}

// nameByWords and valueByWords are asked of the two parts of a field by the document's words.
var (
	nameByWords  = regexp.MustCompile("^[A-Za-z0-9!#$%&'*+\\-.^_`|~]+$")
	valueByWords = regexp.MustCompile(`^(?:[\x21-\x7e\x{80}-\x{ff}](?:[\x09\x20-\x7e\x{80}-\x{ff}]*[\x21-\x7e\x{80}-\x{ff}])?)?$`)
)

// P12.2, P12.3: Check and Text of every field of short parts, against the document's words; the line, parsed, is the field.
func TestTextOfEveryShortField(t *testing.T) {
	names := samples.Texts(samples.Each("A: \n\x00\xff-"), 3)
	values := samples.Texts(samples.Each("b: \t\r\x00\x85"), 4)
	right := 0
	for _, name := range names {
		for _, value := range values {
			if t.Failed() {
				return
			}
			f := field(name, value)
			switch {
			case !nameByWords.MatchString(runes(name)):
				unwritten(t, f, api.ErrName)
			case !valueByWords.MatchString(runes(value)):
				unwritten(t, f, api.ErrValue)
			default:
				right++
				written(t, f, lineByWords(f))
				parsed(t, lineByWords(f), f)
			}
		}
	}
	// 14 tokens of A and -; values of one to four bytes that begin and end with one of three, between them any of five, and the empty one.
	if want := 14 * (1 + 3 + 3*3*(1+5+5*5)); right != want {
		t.Errorf("%d fields may be, want %d", right, want)
	}
}

// P12.3: a line differs from the text that it was parsed of in nothing but blanks and tabs about the value.
func TestBlanksAboutValues(t *testing.T) {
	about := samples.Texts(samples.Each(" \t"), 4)
	for _, f := range []api.Field{field("A", ""), field("A", "b"), field("A", "b \t c"), field("A", ":"), field("x-Y", "\xa0"), field("A", "A: b")} {
		for _, ahead := range about {
			for _, behind := range about {
				parsed(t, f.Name+":"+ahead+f.Value+behind, f)
			}
		}
		written(t, f, lineByWords(f))
	}
}

// long is a unit as often as it goes into a text.
func long(unit string) string { return strings.Repeat(unit, api.MaxText/len(unit)) }

// P1: every call ends soon of long lines.
func TestLongLines(t *testing.T) {
	name, wide := long("aB-"), long(" \t")
	for _, value := range []string{"", "b", long("b"), "b" + wide + "c", long(":"), long("A: b\t") + "c", long("\xff"), long(", \"")} {
		f := field(name, value)
		written(t, f, lineByWords(f))
		parsed(t, name+":"+value, f)
		parsed(t, name+":"+wide+value+wide, f)
		unwritten(t, field(name, value+wide), api.ErrValue)
		unwritten(t, field(name, wide+value), api.ErrValue)
		unwritten(t, field(name, value+"\x00"), api.ErrValue)
		unwritten(t, field(name+" ", value), api.ErrName)
		refused(t, name+wide+":"+value, api.ErrSpace)
		refused(t, name+wide+"c:"+value, api.ErrName)
		refused(t, name+"("+wide+":"+value, api.ErrName)
		refused(t, name+":"+value+wide+"\x00"+wide, api.ErrValue)
		refused(t, wide+name+":"+value, api.ErrFold)
		refused(t, wide+name+":"+value+"\n", api.ErrBare)
	}
}

// P1: every call ends soon of long texts of one kind; each is told as a short one is.
func TestLongTextsOfOneKind(t *testing.T) {
	for _, unit := range []string{" ", "\t", ":", "\x00", "\xff", "(", "\r", "\n", "\r\n", "a", "a ", " :", ": ", "A: b\r\n", "A:", "\t:"} {
		for _, ahead := range []string{"", "A", "A:", "A:b"} {
			_, want := byWords(ahead + unit + unit + unit)
			if _, e := Parse(ahead + long(unit)); e != want {
				t.Errorf("Parse of %q and many of %q: %d, want %d", ahead, unit, e, want)
			}
		}
	}
	for _, unit := range []string{" ", "\t", "\x00", "\r\n", "a\x7f", "b "} {
		unwritten(t, field(long(unit), long(unit)), api.ErrName)
		unwritten(t, field("A", long(unit)), api.ErrValue)
		unwritten(t, field("A", "b"+long(unit)), api.ErrValue)
	}
}

// The chapter's examples.
func TestExamples(t *testing.T) {
	refused(t, "Host : a", api.ErrSpace)
	parsed(t, "Host:a", field("Host", "a"))
	written(t, field("Host", "a"), "Host: a")
}
