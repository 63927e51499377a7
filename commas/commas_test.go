package commas

import (
	"slices"
	"strings"
	"testing"

	"doorstep/api"
	"doorstep/octet"
	"doorstep/samples"
)

// lists tells whether a call answered what it should: a list, or an error and no list.
func lists(t *testing.T, what string, l []string, e api.Errno, want []string, wantE api.Errno) {
	t.Helper()
	if !slices.Equal(l, want) || e != wantE {
		t.Errorf("%.80q: %.200q, %d, want %.200q, %d", what, l, e, want, wantE)
	}
}

// text tells whether a call answered the text that it should.
func text(t *testing.T, what, s, want string) {
	t.Helper()
	if s != want {
		t.Errorf("%.80q: %.80q, want %.80q", what, s, want)
	}
}

// P6.1: a list is taken apart at its commas, but those in quotes and in comments; blanks and tabs go, and what is empty.
func TestSplit(t *testing.T) {
	for _, c := range []struct {
		s    string
		want []string
	}{
		{``, nil},
		{` `, nil},
		{"\t \t", nil},
		{`,`, nil},
		{" ,\t, ,,", nil},
		{`a`, []string{`a`}},
		{"\t a \t", []string{`a`}},
		{`,a,`, []string{`a`}},
		{`a,b`, []string{`a`, `b`}},
		{`b,a,b`, []string{`b`, `a`, `b`}},
		{"a ,\tb\t, c d ", []string{`a`, `b`, `c d`}},
		{"a \t b", []string{"a \t b"}},
		{"\r\na\x00,\nb\v", []string{"\r\na\x00", "\nb\v"}},
		{"\u00a0a\u00a0, \xff\x80", []string{"\u00a0a\u00a0", "\xff\x80"}},
		{`"a,b",c`, []string{`"a,b"`, `c`}},
		{`c,"a,b"`, []string{`c`, `"a,b"`}},
		{`" a ", "\t"`, []string{`" a "`, `"\t"`}},
		{"\"\t\"", []string{"\"\t\""}},
		{`"",""`, []string{`""`, `""`}},
		{`"a""b"`, []string{`"a""b"`}},
		{`x="a,b";y=",",z`, []string{`x="a,b";y=","`, `z`}},
		{`"a\",b",c`, []string{`"a\",b"`, `c`}},
		{`"a\\",b`, []string{`"a\\"`, `b`}},
		{`"(",")",a`, []string{`"("`, `")"`, `a`}},
		{`"(,",b`, []string{`"(,"`, `b`}},
		{`(a,b),c`, []string{`(a,b)`, `c`}},
		{`()`, []string{`()`}},
		{`( )`, []string{`( )`}},
		{`(),()`, []string{`()`, `()`}},
		{`(,)(,),d`, []string{`(,)(,)`, `d`}},
		{`(a,(b,c),d),e`, []string{`(a,(b,c),d)`, `e`}},
		{`((,)),(((,),),),e`, []string{`((,))`, `(((,),),)`, `e`}},
		{`x (a,b) y,z`, []string{`x (a,b) y`, `z`}},
		{`(\),),x`, []string{`(\),)`, `x`}},
		{`(\(,),x`, []string{`(\(,)`, `x`}},
		{`(\\),x`, []string{`(\\)`, `x`}},
		{`(\\\),),x`, []string{`(\\\),)`, `x`}},
		{`(a\,b),x`, []string{`(a\,b)`, `x`}},
		{`(",",),y`, []string{`(",",)`, `y`}},
		{`(",),y`, []string{`(",)`, `y`}},
		{`("),"y"`, []string{`(")`, `"y"`}},
		{"(\x00\r\n\\\x00,),y", []string{"(\x00\r\n\\\x00,)", "y"}},
		{`a)b,c`, []string{`a)b`, `c`}},
		{`),)`, []string{`)`, `)`}},
		{`(a)),b)`, []string{`(a))`, `b)`}},
		{`\,\`, []string{`\`, `\`}},
		{`\ , a`, []string{`\`, `a`}},
		{`\(,)`, []string{`\(,)`}},
		{`\",",a`, []string{`\","`, `a`}},
		{`';',;`, []string{`';'`, `;`}},
	} {
		l, e := Split(c.s)
		lists(t, "Split of "+c.s, l, e, c.want, api.OK)
	}
}

// P6.1: a quote that begins no quoted text's bytes, and a comment without its end, wherever they stand; nothing is told beside the error.
func TestSplitOfWrong(t *testing.T) {
	for _, s := range []string{
		`"`, `"a`, `"\"`, `"\`, `"a\`, `"""`, `"a"b"`, `a"`,
		"\"\r\"", "\"\x00\"", "\"\x7f\"", "\"\\\n\"", "\"a\nb\"",
		`(`, `((`, `(a`, `(()`, `(\)`, `(\`, `(a\`, `(\\\)`, `()(`, `a(b`, `("`, `(")"(`, `)(`, `(a,(b,c),d`,
		`\"`, `\(`, `"\\"\"`, `(")"`, `"("(`, `"(",")"(`,
	} {
		for _, ahead := range []string{"", "a,", "a, b ,\t", `"q,",`, "(c,),", "x"} {
			l, e := Split(ahead + s)
			lists(t, "Split of "+ahead+s, l, e, nil, api.ErrForm)
		}
	}
	for _, s := range []string{`",a`, `"\",a`, `(,a`, `(\),a`, `((),a`, `a,(b,c`, `a,"b,c`, `(,"a)",")",b`} {
		l, e := Split(s)
		lists(t, "Split of "+s, l, e, nil, api.ErrForm)
	}
}

// P6.1: each of the 256 bytes where it stands by itself, between others, in quotes, in a comment, and behind an escape in each.
func TestSplitOfEachByte(t *testing.T) {
	for n := range 256 {
		b := string([]byte{byte(n)})
		ofValue := n == 9 || n >= 32 && n <= 126 || n > 127
		alone, between := []string{b}, []string{"x" + b + "y"}
		e := api.OK
		switch b {
		case " ", "\t":
			alone = nil
		case ",":
			alone, between = nil, []string{"x", "y"}
		case `"`, "(":
			alone, between, e = nil, nil, api.ErrForm
		}
		check := func(s string, want []string, wantE api.Errno) {
			t.Helper()
			l, e := Split(s)
			lists(t, "Split of "+s, l, e, want, wantE)
		}
		check(b, alone, e)
		check("x"+b+"y", between, e)
		switch {
		case b == `"` || b == `\`:
			// What these make within quotes is told by TestEveryShortText.
		case ofValue:
			check(`"x`+b+`,y",z`, []string{`"x` + b + `,y"`, "z"}, api.OK)
		default:
			check(`"x`+b+`,y",z`, nil, api.ErrForm)
		}
		if ofValue {
			check(`"x\`+b+`,y",z`, []string{`"x\` + b + `,y"`, "z"}, api.OK)
		} else {
			check(`"x\`+b+`,y",z`, nil, api.ErrForm)
		}
		check(`(x\`+b+`,y),z`, []string{`(x\` + b + `,y)`, "z"}, api.OK)
		if b != "(" && b != ")" && b != `\` {
			check("(x"+b+",y),z", []string{"(x" + b + ",y)", "z"}, api.OK)
		}
	}
}

// P6.2: the tokens of all texts, in order, as they stand; the first text that is no list, or has another element, gives all up.
func TestTokens(t *testing.T) {
	for _, c := range []struct {
		l, want []string
		e       api.Errno
	}{
		{nil, nil, api.OK},
		{[]string{}, nil, api.OK},
		{[]string{""}, nil, api.OK},
		{[]string{" , ", "", "\t"}, nil, api.OK},
		{[]string{"a"}, []string{"a"}, api.OK},
		{[]string{"close, Upgrade", "x"}, []string{"close", "Upgrade", "x"}, api.OK},
		{[]string{"a,,b\t", "", " c ,"}, []string{"a", "b", "c"}, api.OK},
		{[]string{"a,A", "a"}, []string{"a", "A", "a"}, api.OK},
		{[]string{"!#$%&'*+-.^_`|~,0"}, []string{"!#$%&'*+-.^_`|~", "0"}, api.OK},
		{[]string{"a b"}, nil, api.ErrForm},
		{[]string{"a", "b c"}, nil, api.ErrForm},
		{[]string{"b c", "a"}, nil, api.ErrForm},
		{[]string{"a, b c, d"}, nil, api.ErrForm},
		{[]string{"a", "b, c=d", "e"}, nil, api.ErrForm},
		{[]string{`"a"`}, nil, api.ErrForm},
		{[]string{`a, ""`}, nil, api.ErrForm},
		{[]string{"(a)"}, nil, api.ErrForm},
		{[]string{"a (b)"}, nil, api.ErrForm},
		{[]string{"a)"}, nil, api.ErrForm},
		{[]string{`a, "b`}, nil, api.ErrForm},
		{[]string{"a", "(b"}, nil, api.ErrForm},
		{[]string{"(", "a"}, nil, api.ErrForm},
		{[]string{"(a", "b)"}, nil, api.ErrForm},
		{[]string{`"a`, `b"`}, nil, api.ErrForm},
		{[]string{"a\r\n"}, nil, api.ErrForm},
		{[]string{"\x00"}, nil, api.ErrForm},
		{[]string{"\u00e4"}, nil, api.ErrForm},
	} {
		l, e := Tokens(c.l...)
		lists(t, "Tokens of "+strings.Join(c.l, " | "), l, e, c.want, c.e)
	}
}

// P6.2: each of the 256 bytes as an element.
func TestTokensOfEachByte(t *testing.T) {
	for n := range 256 {
		b := string([]byte{byte(n)})
		want, wantE := []string{"a", b, "c"}, api.OK
		switch {
		case b == " " || b == "\t" || b == ",":
			want = []string{"a", "c"}
		case !octet.IsToken(byte(n)):
			want, wantE = nil, api.ErrForm
		}
		l, e := Tokens("a", b, "c")
		lists(t, "Tokens of a, c, and "+b, l, e, want, wantE)
	}
}

// P6.2: Has looks for a whole element, folded, in each text by itself; a text that has something else than tokens has none.
func TestHas(t *testing.T) {
	for _, c := range []struct {
		token string
		l     []string
		want  bool
	}{
		{"close", []string{"close"}, true},
		{"CLOSE", []string{"close"}, true},
		{"close", []string{"CLOSE"}, true},
		{"cLoSe", []string{"ClOsE"}, true},
		{"close", []string{"keep-alive, close"}, true},
		{"close", []string{"close, keep-alive"}, true},
		{"close", []string{"a,\tclose\t,b"}, true},
		{"close", []string{"", "a", "close"}, true},
		{"close", []string{"close", "a b"}, true},
		{"close", []string{"a b", "close"}, true},
		{"close", []string{"(", "close"}, true},
		{"close", []string{"\"", "close", ")"}, true},
		{"CLOSE", []string{"a b", "keep-alive, close"}, true},
		{"close", nil, false},
		{"close", []string{}, false},
		{"close", []string{""}, false},
		{"close", []string{"clo"}, false},
		{"clo", []string{"close"}, false},
		{"ose", []string{"close"}, false},
		{"close", []string{"cl", "ose"}, false},
		{"close", []string{"close, a b"}, false},
		{"close", []string{"a b, close"}, false},
		{"close", []string{"close, \"q\""}, false},
		{"close", []string{"close, (c)"}, false},
		{"close", []string{"close, (c"}, false},
		{"close", []string{"close, \""}, false},
		{"close", []string{"\"close\""}, false},
		{"close", []string{"(close)"}, false},
		{"close", []string{"close=1", "close b"}, false},
		{"", nil, false},
		{"", []string{""}, false},
		{"", []string{"a,,b", ","}, false},
		{" close", []string{"close"}, false},
		{"close,", []string{"close,"}, false},
		{"a, b", []string{"a, b"}, false},
		{"a b", []string{"a b"}, false},
		{`"a"`, []string{`"a"`}, false},
		{"(a)", []string{"(a)"}, false},
		{"\u212a", []string{"k"}, false},
		{"k", []string{"\u212a"}, false},
		{"\u00e4", []string{"\u00e4"}, false},
		{"^", []string{"~"}, false},
	} {
		if got := Has(c.token, c.l...); got != c.want {
			t.Errorf("Has of %q in %q: %v", c.token, c.l, got)
		}
	}
}

// P6.3: Join lays a comma and a blank between each two, whatever they are.
func TestJoin(t *testing.T) {
	for _, c := range []struct {
		l    []string
		want string
	}{
		{nil, ""},
		{[]string{}, ""},
		{[]string{""}, ""},
		{[]string{"a"}, "a"},
		{[]string{"a", "b"}, "a, b"},
		{[]string{"a", "b", "c"}, "a, b, c"},
		{[]string{"", ""}, ", "},
		{[]string{"", "a", ""}, ", a, "},
		{[]string{" a ", ",", "\"", "(\r\n"}, " a , ,, \", (\r\n"},
	} {
		text(t, "Join of "+strings.Join(c.l, " | "), Join(c.l...), c.want)
	}
}

// P6.3: Append of nothing is the text as it stands; behind nothing it is the list's text; else both, without blanks between.
func TestAppend(t *testing.T) {
	for _, c := range []struct {
		s    string
		l    []string
		want string
	}{
		{"", nil, ""},
		{"", []string{}, ""},
		{"a", nil, "a"},
		{" a \t", nil, " a \t"},
		{" ,\t", nil, " ,\t"},
		{"a,", []string{}, "a,"},
		{"", []string{"a"}, "a"},
		{"", []string{"a", "b"}, "a, b"},
		{"", []string{" a "}, " a "},
		{" ", []string{"a"}, "a"},
		{"\t", []string{"a"}, "a"},
		{",", []string{"a"}, "a"},
		{" ,\t,, ", []string{"a", "b"}, "a, b"},
		{"", []string{""}, ""},
		{",", []string{"", ""}, ", "},
		{"a", []string{"b"}, "a, b"},
		{"a", []string{"b", "c", "d"}, "a, b, c, d"},
		{"a", []string{""}, "a, "},
		{" a ", []string{"b"}, " a, b"},
		{"\ta\t \t", []string{" b ", "c "}, "\ta,  b , c "},
		{"a, ", []string{"b"}, "a,, b"},
		{"a ,", []string{"b"}, "a ,, b"},
		{", a", []string{"b"}, ", a, b"},
		{",a,\t,\t", []string{"b"}, ",a,\t,, b"},
		{"\r\n", []string{"b"}, "\r\n, b"},
		{"\x00", []string{"b"}, "\x00, b"},
		{"\u00a0", []string{"b"}, "\u00a0, b"},
		{"a \v", []string{"b"}, "a \v, b"},
		{`"`, []string{"b"}, `", b`},
		{`(a `, []string{"b)"}, `(a, b)`},
		{`""`, []string{`""`}, `"", ""`},
	} {
		text(t, "Append of "+c.s+" and "+strings.Join(c.l, " | "), Append(c.s, c.l...), c.want)
	}
}

// P6.3: each of the 256 bytes as the text: three of them count as nothing, two of them go at its end.
func TestAppendOfEachByte(t *testing.T) {
	for n := range 256 {
		b := string([]byte{byte(n)})
		alone, behind := b+", a", "x"+b+", a"
		switch b {
		case " ", "\t":
			alone, behind = "a", "x, a"
		case ",":
			alone = "a"
		}
		text(t, "Append of "+b, Append(b, "a"), alone)
		text(t, "Append of x"+b, Append("x"+b, "a"), behind)
	}
}

// bytesOf is each byte of an alphabet that is not among some others.
func bytesOf(alphabet, others string) []string {
	return samples.Bytes(alphabet, func(b byte) bool { return strings.IndexByte(others, b) < 0 })
}

// escaped is each byte of an alphabet that is not among some others, behind an escape.
func escaped(alphabet, others string) []string {
	units := bytesOf(alphabet, others)
	for i, u := range units {
		units[i] = `\` + u
	}
	return units
}

// quotes is all quoted texts' bytes of an alphabet up to a length.
func quotes(alphabet string, most int) []string {
	// The bytes of the alphabets here are of a value, but for the line's end.
	units := append(bytesOf(alphabet, "\"\\\n"), escaped(alphabet, "\n")...)
	all := []string{}
	for _, s := range samples.Texts(units, most-2) {
		all = append(all, `"`+s+`"`)
	}
	return all
}

// comments is all comments of an alphabet up to a length.
func comments(alphabet string, most int) []string {
	if most < 2 {
		return nil
	}
	units := slices.Concat(bytesOf(alphabet, `()\`), escaped(alphabet, ""), comments(alphabet, most-2))
	all := []string{}
	for _, s := range samples.Texts(units, most-2) {
		all = append(all, "("+s+")")
	}
	return all
}

// unparted is a list's text on its way: its bytes, its elements so far, and what stands behind its last comma.
type unparted struct {
	text, last string
	elements   []string
}

// ended is the elements, that of what stands behind the last comma among them.
func (u unparted) ended() []string {
	if element := strings.Trim(u.last, " \t"); element != "" {
		return append(slices.Clone(u.elements), element)
	}
	return u.elements
}

// allLists is every list's text of an alphabet up to a length, with its elements: written from the document's words, not read.
func allLists(t *testing.T, alphabet string, most int) map[string][]string {
	units := slices.Concat(bytesOf(alphabet, `,"(`), quotes(alphabet, most), comments(alphabet, most))
	all := map[string][]string{}
	row := []unparted{{}}
	for i := 0; i < len(row); i++ {
		u := row[i]
		if before, twice := all[u.text]; twice && !slices.Equal(before, u.ended()) {
			t.Fatalf("%q has two meanings: %q and %q", u.text, before, u.ended())
		}
		all[u.text] = u.ended()
		if len(u.text) < most {
			row = append(row, unparted{u.text + ",", "", u.ended()})
		}
		for _, unit := range units {
			if len(u.text)+len(unit) <= most {
				row = append(row, unparted{u.text + unit, u.last + unit, u.elements})
			}
		}
	}
	return all
}

// P6.1 to P6.3: Split, Tokens, Has and Append of every short text of the bytes by which it could go wrong, against all lists.
func TestEveryShortText(t *testing.T) {
	for _, c := range []struct {
		alphabet string
		most     int
	}{{`,"()\`, 7}, {`,"()\a `, 6}, {",\"()\\\n\t", 5}} {
		all := allLists(t, c.alphabet, c.most)
		right, wrong := 0, 0
		for _, s := range samples.Texts(bytesOf(c.alphabet, ""), c.most) {
			want, is := all[s]
			wantE := api.OK
			if is {
				right++
			} else {
				wrong++
				want, wantE = nil, api.ErrForm
			}
			l, e := Split(s)
			lists(t, "Split of "+s, l, e, want, wantE)
			if is && slices.ContainsFunc(want, func(x string) bool { return !octet.Token(x) }) {
				want, wantE = nil, api.ErrForm
			}
			l, e = Tokens(s)
			lists(t, "Tokens of "+s, l, e, want, wantE)
			if got := Has("A", s); got != slices.Contains(want, "a") {
				t.Errorf("Has of A in %q: %v", s, got)
			}
			if is {
				l, e = Split(Append(s, `"b,"`, "c"))
				lists(t, "Split of Append of "+s, l, e, append(slices.Clone(all[s]), `"b,"`, "c"), api.OK)
			}
		}
		if right < 100 || wrong < 100 || right != len(all) {
			t.Errorf("Of the bytes %q: %d lists of %d, %d that are none", c.alphabet, right, len(all), wrong)
		}
	}
}

// elementsOf is every text of some bytes up to a length that is an element: the one of itself.
func elementsOf(t *testing.T, alphabet string, most int) []string {
	all := []string{}
	for s, elements := range allLists(t, alphabet, most) {
		if slices.Equal(elements, []string{s}) {
			all = append(all, s)
		}
	}
	slices.Sort(all)
	return all
}

// P6.4: Split of Join of elements is these: of each, each two, and each three of some.
func TestSplitOfJoin(t *testing.T) {
	all := elementsOf(t, `,"()\a `, 4)
	few := elementsOf(t, `,"()\ `, 3)
	if len(all) < 100 || len(few) < 10 {
		t.Errorf("%d and %d elements", len(all), len(few))
	}
	check := func(l ...string) {
		t.Helper()
		got, e := Split(Join(l...))
		lists(t, "Split of Join of "+strings.Join(l, " | "), got, e, l, api.OK)
	}
	check()
	for _, a := range all {
		check(a)
		for _, b := range all {
			check(a, b)
		}
	}
	for _, a := range few {
		for _, b := range few {
			for _, c := range few {
				check(a, b, c)
			}
		}
	}
}

// P6.4: Split of Append is the elements of the text, and those of the list behind it, whatever blanks and commas both have.
func TestSplitOfAppend(t *testing.T) {
	some := allLists(t, `,"( )`, 4)
	few := elementsOf(t, `"( )\a`, 3)
	for s, elements := range some {
		l, e := Split(Append(s))
		lists(t, "Split of Append of "+s, l, e, elements, api.OK)
		for _, a := range few {
			l, e := Split(Append(s, a))
			lists(t, "Split of Append of "+s+" and "+a, l, e, append(slices.Clone(elements), a), api.OK)
			l, e = Split(Append(s, "x", a, "y z"))
			lists(t, "Split of Append of "+s+" and x, "+a+", y z", l, e, append(slices.Clone(elements), "x", a, "y z"), api.OK)
		}
		for _, behind := range []string{"", " ", ",", "a,b", " , \"c,\"\t, (d,)"} {
			more, _ := Split(behind)
			l, e := Split(Append(s, behind))
			lists(t, "Split of Append of "+s+" and "+behind, l, e, slices.Concat(elements, more), api.OK)
		}
	}
}

// P1: long texts end, and soon: comments as deep as they go, quotes, escapes, commas, and a token held against many.
func TestLongTexts(t *testing.T) {
	const n = api.MaxText / 2
	deep := strings.Repeat("(", n) + strings.Repeat(")", n)
	escapes := `(` + strings.Repeat(`\)`, n-1) + `)`
	quote := `"` + strings.Repeat(`\"`, n-1) + `"`
	quotes := strings.Repeat(`"a,"`, n/2)
	for _, s := range []string{deep, escapes, quote, quotes, strings.Repeat("ab", n)} {
		l, e := Split(s + ",b")
		lists(t, "Split of a long text", l, e, []string{s, "b"}, api.OK)
	}
	for _, s := range []string{deep[:2*n-1], escapes[:2*n-1], quote[:2*n-1], quotes[:len(quotes)-1], deep[:n]} {
		l, e := Split("b," + s)
		lists(t, "Split of a long text that is torn", l, e, nil, api.ErrForm)
	}
	l, e := Split(strings.Repeat(", ", n))
	lists(t, "Split of many commas", l, e, nil, api.OK)
	many := strings.Repeat("a,", n)
	if l, e = Tokens(many); len(l) != n || e != api.OK {
		t.Errorf("Tokens of %d: %d, %d", n, len(l), e)
	}
	long := strings.Repeat("A", 2*n)
	if Has(long, many) || !Has(long, many, strings.ToLower(long)) {
		t.Errorf("Has of a long token")
	}
	text(t, "Append to many commas", Append(strings.Repeat(",\t", n), "a"), "a")
	text(t, "Append to many blanks", Append("a"+strings.Repeat(" ", 2*n), "b"), "a, b")
}

// Rule 4: lists that are handed in are not changed, neither in what they hold nor in the room behind it.
func TestListsAreNotChanged(t *testing.T) {
	for _, call := range []func(l []string){
		func(l []string) { Tokens(l...) },
		func(l []string) { Has("B", l...) },
		func(l []string) { Has("c", l...) },
		func(l []string) { Join(l...) },
		func(l []string) { Append("x", l...) },
		func(l []string) { Append(",", l...) },
	} {
		all := []string{" A ,", "b", "behind", "behind it"}
		call(all[:2])
		if !slices.Equal(all, []string{" A ,", "b", "behind", "behind it"}) {
			t.Errorf("the list: %q", all)
		}
	}
}

// Rule 4: what is answered is new: a change of it is told by no later call.
func TestAnswersAreApart(t *testing.T) {
	for range 3 {
		for _, call := range []func() ([]string, api.Errno){
			func() ([]string, api.Errno) { return Split("a, b") },
			func() ([]string, api.Errno) { return Tokens("a, b") },
			func() ([]string, api.Errno) { return Tokens("a", "b") },
		} {
			l, e := call()
			lists(t, "of a, b", l, e, []string{"a", "b"}, api.OK)
			l[0] = "other"
			_ = append(l[:1], "another")
		}
		in := []string{"a", "b"}
		l, e := Tokens(in...)
		in[0] = "other"
		lists(t, "Tokens, behind a change of its texts", l, e, []string{"a", "b"}, api.OK)
	}
}

// The chapter's examples.
func TestExamples(t *testing.T) {
	l, e := Split(`a, "b,c" ,, (x,y) d`)
	lists(t, "Split of the example", l, e, []string{`a`, `"b,c"`, `(x,y) d`}, api.OK)
	text(t, "Append of the example", Append("a, ", "b"), "a,, b")
}
