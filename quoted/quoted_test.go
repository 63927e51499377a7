package quoted

import (
	"strings"
	"testing"

	"doorstep/api"
	"doorstep/octet"
	"doorstep/scan"
)

// everyByte is a text of all 256 bytes, in order.
func everyByte() string {
	l := make([]byte, 256)
	for n := range l {
		l[n] = byte(n)
	}
	return string(l)
}

// ofValue is a text of all bytes of a value, in order: told here by their numbers.
func ofValue() string {
	l := []byte{}
	for n := range 256 {
		if n == 9 || n >= 32 && n <= 126 || n > 127 {
			l = append(l, byte(n))
		}
	}
	return string(l)
}

// isOfValue: is a byte one of a value?
func isOfValue(n int) bool { return strings.IndexByte(ofValue(), byte(n)) >= 0 }

// answers tells whether a call answered what it should: a text, or an error and no text.
func answers(t *testing.T, what, s string, e api.Errno, want string, wantE api.Errno) {
	t.Helper()
	if s != want || e != wantE {
		t.Errorf("%.80q: %.80q, %d, want %.80q, %d", what, s, e, want, wantE)
	}
}

// reads tells whether a call on a scanner answered what it should, and left the scanner of that text where it should.
func reads(t *testing.T, what string, c *scan.Scanner, s string, ok bool, want string, wantOK bool, rest string) {
	t.Helper()
	if s != want || ok != wantOK || c.Rest() != rest {
		t.Errorf("%.80q: %.80q, %v, rest %.80q, want %.80q, %v, rest %.80q", what, s, ok, c.Rest(), want, wantOK, rest)
	}
}

// P5.1: Quote puts an escape ahead of the mark and of the escape, and of nothing else.
func TestQuote(t *testing.T) {
	for _, c := range []struct{ s, want string }{
		{``, `""`},
		{`a"b`, `"a\"b"`},
		{`a b`, `"a b"`},
		{`ab`, `"ab"`},
		{`a\b`, `"a\\b"`},
		{`\`, `"\\"`},
		{`"`, `"\""`},
		{`""`, `"\"\""`},
		{`\"`, `"\\\""`},
		{`"a"`, `"\"a\""`},
		{"\ta ", "\"\ta \""},
		{"'(,;=", "\"'(,;=\""},
		{"\u00e4\x80\xff", "\"\u00e4\x80\xff\""},
	} {
		s, e := Quote(c.s)
		answers(t, "Quote of "+c.s, s, e, c.want, api.OK)
	}
}

// P5.1: Quote of each of the 256 bytes, alone and between others: ErrForm of one that is none of a value.
func TestQuoteOfEachByte(t *testing.T) {
	for n := range 256 {
		b := string([]byte{byte(n)})
		for _, c := range []struct{ ahead, behind string }{{"", ""}, {"a", ""}, {"", "a"}, {"a ", "\""}} {
			want, wantE := "", api.ErrForm
			if isOfValue(n) {
				want, wantE = `"`+escaped(c.ahead+b+c.behind)+`"`, api.OK
			}
			s, e := Quote(c.ahead + b + c.behind)
			answers(t, "Quote of "+c.ahead+b+c.behind, s, e, want, wantE)
		}
	}
	s, e := Quote(everyByte())
	answers(t, "Quote of every byte", s, e, "", api.ErrForm)
}

// escaped is a text with an escape ahead of each mark and each escape.
func escaped(s string) string {
	return strings.ReplaceAll(strings.ReplaceAll(s, `\`, `\\`), `"`, `\"`)
}

// P5.1: Unquote takes just a quoted text's bytes, and nothing ahead of them, behind them, or without their end.
func TestUnquote(t *testing.T) {
	for _, c := range []struct {
		s, want string
		e       api.Errno
	}{
		{`""`, ``, api.OK},
		{`"a"`, `a`, api.OK},
		{`"a b"`, `a b`, api.OK},
		{`"a\"b"`, `a"b`, api.OK},
		{`"\\"`, `\`, api.OK},
		{`"\\\\"`, `\\`, api.OK},
		{`"\\\""`, `\"`, api.OK},
		{`"\a\b"`, `ab`, api.OK},
		{`"\ \` + "\t" + `"`, " \t", api.OK},
		{"\"\\\x80\xff\"", "\x80\xff", api.OK},
		{"\"\t \"", "\t ", api.OK},
		{`",(;='"`, `,(;='`, api.OK},
		{``, ``, api.ErrForm},
		{`"`, ``, api.ErrForm},
		{`a`, ``, api.ErrForm},
		{`"a`, ``, api.ErrForm},
		{`a"`, ``, api.ErrForm},
		{`"\"`, ``, api.ErrForm},
		{`"\`, ``, api.ErrForm},
		{`"a\`, ``, api.ErrForm},
		{`"\\\"`, ``, api.ErrForm},
		{`\"a"`, ``, api.ErrForm},
		{`"a"b`, ``, api.ErrForm},
		{`"a"b"`, ``, api.ErrForm},
		{`"a" `, ``, api.ErrForm},
		{` "a"`, ``, api.ErrForm},
		{`"a""b"`, ``, api.ErrForm},
		{`"""`, ``, api.ErrForm},
		{`'a'`, ``, api.ErrForm},
		{"\"a\r\n\"", ``, api.ErrForm},
		{"\"a\"\r\n", ``, api.ErrForm},
		{"\"\x00\"", ``, api.ErrForm},
		{"\"\\\x00\"", ``, api.ErrForm},
		{"\"\\\n\"", ``, api.ErrForm},
		{"\"a\x7f\"", ``, api.ErrForm},
		{"\"\\\x7f\"", ``, api.ErrForm},
	} {
		s, e := Unquote(c.s)
		answers(t, "Unquote of "+c.s, s, e, c.want, c.e)
	}
}

// P5.1, P5.2: each of the 256 bytes in a quoted text, as it is, behind an escape, and behind an escape that is one itself.
func TestEachByteInQuotes(t *testing.T) {
	for n := range 256 {
		b := string([]byte{byte(n)})
		plain := isOfValue(n) && b != `"` && b != `\`
		for _, c := range []struct {
			s, meant string
			ok       bool
		}{
			{`"` + b + `"`, b, plain},
			{`"x` + b + `y"`, `x` + b + `y`, plain},
			{`"\` + b + `"`, b, isOfValue(n)},
			{`"x\` + b + `y"`, `x` + b + `y`, isOfValue(n)},
			{`"\\` + b + `y"`, `\` + b + `y`, plain},
		} {
			// What is no quoted text's bytes to the last one may begin with some, or be some otherwise: those of n are told by TestEveryShortText.
			if !c.ok && (b == `"` || b == `\`) {
				continue
			}
			want, wantE, rest := c.meant, api.OK, "z"
			if !c.ok {
				want, wantE, rest = "", api.ErrForm, c.s+"z"
			}
			s, e := Unquote(c.s)
			answers(t, "Unquote of "+c.s, s, e, want, wantE)
			r := scan.New(c.s + "z")
			s, ok := Read(r)
			reads(t, "Read of "+c.s, r, s, ok, want, c.ok, rest)
		}
	}
}

// P5.1: Either lets a token be, and quotes each other text.
func TestEither(t *testing.T) {
	for _, c := range []struct {
		s, want string
		e       api.Errno
	}{
		{`ab`, `ab`, api.OK},
		{`X-A`, `X-A`, api.OK},
		{"~!#$%&'*+-.^_`|~", "~!#$%&'*+-.^_`|~", api.OK},
		{``, `""`, api.OK},
		{`a b`, `"a b"`, api.OK},
		{` a`, `" a"`, api.OK},
		{`a"b`, `"a\"b"`, api.OK},
		{`"ab"`, `"\"ab\""`, api.OK},
		{`x:1`, `"x:1"`, api.OK},
		{`a,b`, `"a,b"`, api.OK},
		{"\u00e4", "\"\u00e4\"", api.OK},
		{"a\r", ``, api.ErrForm},
		{"\x00", ``, api.ErrForm},
		{"a\x7fb", ``, api.ErrForm},
	} {
		s, e := Either(c.s)
		answers(t, "Either of "+c.s, s, e, c.want, c.e)
	}
	for n := range 256 {
		b := string([]byte{byte(n)})
		want, wantE := Quote(b)
		if octet.IsToken(byte(n)) {
			want, wantE = b, api.OK
		}
		s, e := Either(b)
		answers(t, "Either of "+b, s, e, want, wantE)
	}
}

// P5.2: Read takes a quoted text's bytes where the scanner stands, up to their first end; else it takes nothing.
func TestRead(t *testing.T) {
	for _, c := range []struct {
		s, want string
		ok      bool
		rest    string
	}{
		{`"a"`, `a`, true, ``},
		{`""`, ``, true, ``},
		{`"a"b`, `a`, true, `b`},
		{`"a""b"`, `a`, true, `"b"`},
		{`"""`, ``, true, `"`},
		{`"a" "b`, `a`, true, ` "b`},
		{`"a\"b", c`, `a"b`, true, `, c`},
		{`"\\""`, `\`, true, `"`},
		{"\"a\"\r\n", `a`, true, "\r\n"},
		{"\"a\"\x00", `a`, true, "\x00"},
		{``, ``, false, ``},
		{`a"b"`, ``, false, `a"b"`},
		{` "b"`, ``, false, ` "b"`},
		{`\"b"`, ``, false, `\"b"`},
		{`"`, ``, false, `"`},
		{`"ab`, ``, false, `"ab`},
		{`"ab\"`, ``, false, `"ab\"`},
		{`"ab\`, ``, false, `"ab\`},
		{"\"ab\r\"", ``, false, "\"ab\r\""},
		{"\"ab\\\r\"", ``, false, "\"ab\\\r\""},
	} {
		for _, ahead := range []string{"", "k=", "\x00\r\n", `"`, `"q"`} {
			r := scan.New(ahead + c.s)
			r.Text(ahead)
			s, ok := Read(r)
			reads(t, "Read of "+c.s+" behind "+ahead, r, s, ok, c.want, c.ok, c.rest)
			if at := len(ahead) + len(c.s) - len(c.rest); r.At() != at {
				t.Errorf("Read of %q behind %q: at %d, want %d", c.s, ahead, r.At(), at)
			}
		}
	}
}

// P5.2: what Read refused it refuses again, and what was taken may be gone back over and is read again.
func TestReadAgain(t *testing.T) {
	c := scan.New(`a"b`)
	c.Byte('a')
	for range 3 {
		s, ok := Read(c)
		reads(t, "Read, refused", c, s, ok, "", false, `"b`)
	}
	c = scan.New(`a"b\"" "c"`)
	c.Byte('a')
	for range 3 {
		s, ok := Read(c)
		reads(t, "Read", c, s, ok, `b"`, true, ` "c"`)
		if !c.Back(1) {
			t.Errorf("Back over what was read")
		}
	}
}

// P5.2: Word takes a token if one is next, as long as it goes, else a quoted text's bytes, else nothing.
func TestWord(t *testing.T) {
	for _, c := range []struct {
		s, want string
		ok      bool
		rest    string
	}{
		{`tok`, `tok`, true, ``},
		{`tok"q"`, `tok`, true, `"q"`},
		{`tok "q`, `tok`, true, ` "q`},
		{`"q"tok`, `q`, true, `tok`},
		{`"a b\""`, `a b"`, true, ``},
		{`""`, ``, true, ``},
		{`""tok`, ``, true, `tok`},
		{"'a'=b", "'a'", true, `=b`},
		{"a\r", "a", true, "\r"},
		{"a\u00e4", "a", true, "\u00e4"},
		{``, ``, false, ``},
		{` tok`, ``, false, ` tok`},
		{`=tok`, ``, false, `=tok`},
		{`\a`, ``, false, `\a`},
		{`"q`, ``, false, `"q`},
		{`"q\"`, ``, false, `"q\"`},
		{"\"\n\"", ``, false, "\"\n\""},
		{"\u00e4", ``, false, "\u00e4"},
		{"\x00", ``, false, "\x00"},
	} {
		r := scan.New("=" + c.s)
		r.Byte('=')
		s, ok := Word(r)
		reads(t, "Word of "+c.s, r, s, ok, c.want, c.ok, c.rest)
	}
}

// P5.2: words one behind the other, with what parts them taken by the scanner itself.
func TestWordsInARow(t *testing.T) {
	c := scan.New(`a="b c"; d=e"f"`)
	for _, w := range []struct{ want, behind string }{{"a", "="}, {"b c", "; "}, {"d", "="}, {"e", ""}, {"f", ""}} {
		s, ok := Word(c)
		if s != w.want || !ok || !c.Text(w.behind) {
			t.Errorf("Word: %q, %v, rest %q, want %q", s, ok, c.Rest(), w.want)
		}
	}
	s, ok := Word(c)
	reads(t, "Word at the end", c, s, ok, "", false, "")
}

// P5.2, P1: a nil scanner is one of the empty text, and so is one that was not made by New.
func TestNilScanner(t *testing.T) {
	for _, c := range []*scan.Scanner{nil, {}, scan.New("")} {
		for range 2 {
			s, ok := Read(c)
			reads(t, "Read of nothing", c, s, ok, "", false, "")
			s, ok = Word(c)
			reads(t, "Word of nothing", c, s, ok, "", false, "")
		}
	}
}

// production is what a quoted text's bytes may have between their marks, and what that stands for.
type production struct{ bytes, meant string }

// quotedTexts is all quoted texts' bytes of some bytes up to a length, with what they stand for: written from the document's words, not read.
func quotedTexts(alphabet string, most int) map[string]string {
	productions := []production{}
	for _, b := range []byte(alphabet) {
		s := string([]byte{b})
		if isOfValue(int(b)) {
			productions = append(productions, production{`\` + s, s})
			if s != `"` && s != `\` {
				productions = append(productions, production{s, s})
			}
		}
	}
	all := map[string]string{}
	row := []production{{}}
	for len(row) > 0 {
		longer := []production{}
		for _, p := range row {
			if len(p.bytes)+2 > most {
				continue
			}
			all[`"`+p.bytes+`"`] = p.meant
			for _, q := range productions {
				longer = append(longer, production{p.bytes + q.bytes, p.meant + q.meant})
			}
		}
		row = longer
	}
	return all
}

// texts is every text of some bytes up to a length.
func texts(alphabet string, most int) []string {
	all := []string{""}
	for from := 0; most > 0; most-- {
		to := len(all)
		for _, s := range all[from:to] {
			for _, b := range []byte(alphabet) {
				all = append(all, s+string([]byte{b}))
			}
		}
		from = to
	}
	return all
}

// P5.1, P5.2: Unquote, Read and Word of every short text of some bytes, by which it could go wrong, against all quoted texts.
func TestEveryShortText(t *testing.T) {
	const alphabet, most = "\"\\a \x80\n", 6
	all := quotedTexts(alphabet, most)
	for _, s := range texts(alphabet, most) {
		want, is := all[s]
		wantE := api.OK
		if !is {
			wantE = api.ErrForm
		}
		got, e := Unquote(s)
		answers(t, "Unquote of "+s, got, e, want, wantE)
		want, is, rest := beginning(all, s)
		c := scan.New(s)
		got, ok := Read(c)
		reads(t, "Read of "+s, c, got, ok, want, is, rest)
		if token := s[:len(s)-len(strings.TrimLeft(s, "a"))]; token != "" {
			want, is, rest = token, true, s[len(token):]
		}
		c = scan.New(s)
		got, ok = Word(c)
		reads(t, "Word of "+s, c, got, ok, want, is, rest)
	}
}

// beginning is what the quoted text that a text begins with stands for, and what is left behind it.
func beginning(all map[string]string, s string) (string, bool, string) {
	for n := range len(s) + 1 {
		if meant, ok := all[s[:n]]; ok {
			return meant, true, s[n:]
		}
	}
	return "", false, s
}

// P5.3: Unquote of Quote, Read of Quote with anything behind it, and Word of Either, are the text.
func TestThereAndBack(t *testing.T) {
	l := append(texts("\"\\a \t\xff", 5), ofValue(), strings.Repeat(`"\`, 1000), strings.Repeat("a b", 1000))
	for _, b := range []byte(ofValue()) {
		for _, d := range []byte(ofValue()) {
			l = append(l, string([]byte{b, d}))
		}
	}
	for _, s := range l {
		q, e := Quote(s)
		if e != api.OK {
			t.Errorf("Quote of %.80q: %d", s, e)
		}
		back, e := Unquote(q)
		answers(t, "Unquote of Quote of "+s, back, e, s, api.OK)
		c := scan.New(q + `"a`)
		back, ok := Read(c)
		reads(t, "Read of Quote of "+s, c, back, ok, s, true, `"a`)
		w, e := Either(s)
		if e != api.OK {
			t.Errorf("Either of %.80q: %d", s, e)
		}
		c = scan.New(w)
		back, ok = Word(c)
		reads(t, "Word of Either of "+s, c, back, ok, s, true, "")
	}
}

// P1: long texts end, and soon: of plain bytes, of escapes, and of what never ends.
func TestLongTexts(t *testing.T) {
	const n = api.MaxText
	for _, s := range []string{strings.Repeat("a", n), strings.Repeat(" ", n), strings.Repeat(`"`, n), strings.Repeat(`\`, n)} {
		q, e := Quote(s)
		answers(t, "Quote of a long text", q, e, `"`+escaped(s)+`"`, api.OK)
		back, e := Unquote(q)
		answers(t, "Unquote of a long text", back, e, s, api.OK)
		torn := q[:len(q)-1]
		back, e = Unquote(torn)
		answers(t, "Unquote of a long text that is torn", back, e, "", api.ErrForm)
		c := scan.New(torn)
		back, ok := Word(c)
		reads(t, "Word of a long text that is torn", c, back, ok, "", false, torn)
	}
}

// Rule 4: the same is answered again, and what was handed in is as it was.
func TestAgain(t *testing.T) {
	for range 3 {
		s, e := Quote(`a"b`)
		answers(t, "Quote", s, e, `"a\"b"`, api.OK)
		s, e = Quote("\r")
		answers(t, "Quote, refused", s, e, "", api.ErrForm)
		s, e = Unquote(`"a\"b"`)
		answers(t, "Unquote", s, e, `a"b`, api.OK)
		s, e = Either(`a b`)
		answers(t, "Either", s, e, `"a b"`, api.OK)
	}
}
