package params

import (
	"slices"
	"strings"
	"testing"

	"doorstep/api"
	"doorstep/octet"
	"doorstep/samples"
)

// row is params from names and values, by turns.
func row(l ...string) []api.Param {
	var params []api.Param
	for i := 0; i+1 < len(l); i += 2 {
		params = append(params, api.Param{Name: l[i], Value: l[i+1]})
	}
	return params
}

// parsed tells whether Parse of a text answers what it should: params, or an error and none.
func parsed(t *testing.T, s string, want []api.Param, wantE api.Errno) {
	t.Helper()
	l, e := Parse(s)
	if !slices.Equal(l, want) || e != wantE {
		t.Errorf("Parse of %.80q: %.200q, %d, want %.200q, %d", s, l, e, want, wantE)
	}
}

// written tells whether Text of params answers what it should: a text, or an error and the empty one.
func written(t *testing.T, l []api.Param, want string, wantE api.Errno) {
	t.Helper()
	s, e := Text(l...)
	if s != want || e != wantE {
		t.Errorf("Text of %.200q: %.80q, %d, want %.80q, %d", l, s, e, want, wantE)
	}
}

// got tells whether Get of a name in params answers what it should.
func got(t *testing.T, name string, l []api.Param, want string, wantOK bool) {
	t.Helper()
	v, ok := Get(name, l...)
	if v != want || ok != wantOK {
		t.Errorf("Get of %.80q in %.200q: %.80q, %v, want %.80q, %v", name, l, v, ok, want, wantOK)
	}
}

// rows tells whether params are what they should be.
func rows(t *testing.T, what string, l, want []api.Param) {
	t.Helper()
	if !slices.Equal(l, want) {
		t.Errorf("%.80q: %.200q, want %.200q", what, l, want)
	}
}

// P7.1: a row of one param or more, names as they stand, values as they are meant, blanks about semicolons alone.
func TestParse(t *testing.T) {
	for _, c := range []struct {
		s    string
		want []api.Param
	}{
		{`a=b`, row("a", "b")},
		{`A=B`, row("A", "B")},
		{`a=b;c=d`, row("a", "b", "c", "d")},
		{`c=d;a=b;e=f`, row("c", "d", "a", "b", "e", "f")},
		{`a=1;a=2;A=1`, row("a", "1", "a", "2", "A", "1")},
		{"a=b ;c=d", row("a", "b", "c", "d")},
		{"a=b; c=d", row("a", "b", "c", "d")},
		{"a=b\t;\tc=d", row("a", "b", "c", "d")},
		{"a=b \t  ;\t\t c=d  ;e=f;  g=h", row("a", "b", "c", "d", "e", "f", "g", "h")},
		{`a=""`, row("a", "")},
		{`a="";b=""`, row("a", "", "b", "")},
		{`a="b"`, row("a", "b")},
		{`a="b c"`, row("a", "b c")},
		{`a=" b "`, row("a", " b ")},
		{"a=\"\tb\x80\xff\"", row("a", "\tb\x80\xff")},
		{`a="b;c=d"`, row("a", "b;c=d")},
		{`a="b;c=d";e=f`, row("a", "b;c=d", "e", "f")},
		{`a=";" ; b="=" ; c=","`, row("a", ";", "b", "=", "c", ",")},
		{`a="b\"c"`, row("a", `b"c`)},
		{`a="b\\"`, row("a", `b\`)},
		{`a="\\\""; b=c`, row("a", `\"`, "b", "c")},
		{`a="\b\;\ "`, row("a", "b; ")},
		{`a="\";b=\""`, row("a", `";b="`)},
		{"!#$%&'*+-.^_`|~=~|`_^.-+*'&%$#!", row("!#$%&'*+-.^_`|~", "~|`_^.-+*'&%$#!")},
		{`0=1`, row("0", "1")},
		{`for=192.0.2.43; proto=http; by=203.0.113.60`, row("for", "192.0.2.43", "proto", "http", "by", "203.0.113.60")},
		{`For="[2001:db8::1]:80"`, row("For", "[2001:db8::1]:80")},
	} {
		parsed(t, c.s, c.want, api.OK)
	}
}

// P7.1: what is no row's text, alone, ahead of a row and behind one; nothing is told beside the error.
func TestParseOfWrong(t *testing.T) {
	for _, s := range []string{
		``, ` `, "\t", `;`, `;;`, ` ; `, `=`, `==`, `a`, `a=`, `=b`, `"a"=b`, `"a"`, `a"b"`, `a==b`, `a=b=c`, `a=b=`,
		`a =b`, `a= b`, "a\t=b", "a=\tb", `a = b`, `a="b" c`, `a=b c`, `a=b c=d`, `a b=c`, `a=b "c"`, `a=b"c"`, `a="b"c`, `a="b""c"`, `a="b"=c`,
		`a=b,c=d`, `a=b,`, `a=,`, `a=b:c`, `a:b=c`, `a=[::1]`, `a=b/c`, `a=(b)`, `a=b@c`, `a=;`, `a;`,
		`a="`, `a="b`, `a="b\`, `a="b\"`, `a="\"`, `a="\`, `a=b"`, `a='b c'`, `a=\b`, `a\=b`, `a=b\`, `a=\"b\"`,
		"a=b\r\n", "a=b\n", "\r\na=b", "a=\r\nb", "a=\"b\r\n\"", "a=\"\n\"", "a=\"\x00\"", "a=\"\\\x00\"", "a=\"\x7f\"", "a=\"\\\x7f\"", "a=\"\\\n\"",
		"a=\x00", "a\x00=b", "\x00", "a=\x7f", "a=\u00e4", "\u00e4=a", "a=\xff", "a=b\v", "a=b\u00a0",
		` a=b`, "\ta=b", `a=b `, "a=b\t", `a="b" `, ` a="b"`, ` a=b `, `;a=b`, `a=b;`, `a=b; `, `a=b ;`, ` ;a=b`, `; a=b`, `a=b;;c=d`, `a=b; ;c=d`, `a=b;c`, `a=b;c=`, `a=b;=d`, "a=b;\r\nc=d", "a=b\v;c=d", "a=b;\fc=d",
	} {
		parsed(t, s, nil, api.ErrForm)
	}
	// Between right params blanks may stand at the ends, and more params; all else is as wrong there as it is alone.
	for _, s := range []string{
		``, ` `, `a`, `a=`, `=b`, `"a"=b`, `a =b`, `a= b`, `a=b c`, `a=b=c`, `a==b`, `a=b,c=d`, `a="b"c`, `a=b"c"`, `a="b" "c"`, `a=\b`, "a=b\r", "a=\"\n\"", "a=\u00e4", `;`, `;a=b`, `a=b;`,
	} {
		parsed(t, "x=y;"+s, nil, api.ErrForm)
		parsed(t, s+";x=y", nil, api.ErrForm)
		parsed(t, "x=\"y;\" ; "+s+" ;\tx=y", nil, api.ErrForm)
	}
}

// P7.1: each of the 256 bytes at each place of a row.
func TestParseOfEachByte(t *testing.T) {
	for n := range 256 {
		b := string([]byte{byte(n)})
		check := func(ok bool, s string, want []api.Param) {
			t.Helper()
			if ok {
				parsed(t, s, want, api.OK)
			} else {
				parsed(t, s, nil, api.ErrForm)
			}
		}
		token, blank, value := samples.IsToken(byte(n)), samples.IsBlank(byte(n)), samples.IsValue(byte(n))
		check(token, b+"=v", row(b, "v"))
		check(token, b+"n=v", row(b+"n", "v"))
		check(token, "n"+b+"=v", row("n"+b, "v"))
		check(token, "n="+b, row("n", b))
		check(token, "n="+b+"v", row("n", b+"v"))
		check(token, "n=v"+b, row("n", "v"+b))
		check(b == "=", "n"+b+"v", row("n", "v"))
		check(b == ";", `n="v"`+b+"m=w", row("n", "v", "m", "w"))
		check(false, `n="v"`+b, nil)
		check(false, `n="v" `+b+`"w"`, nil)
		check(blank || token, "n=v"+b+";m=w", row("n", "v"+strings.Trim(b, " \t"), "m", "w"))
		check(blank, `n="v"`+b+`;m="w"`, row("n", "v", "m", "w"))
		check(blank || token, "n=v;"+b+"m=w", row("n", "v", strings.Trim(b, " \t")+"m", "w"))
		check(value && b != `"` && b != `\`, `n="`+b+`"`, row("n", b))
		check(value, `n="x\`+b+`y";m=w`, row("n", "x"+b+"y", "m", "w"))
	}
}

// P7.1: Text writes names as they are, values as tokens or in quotes, and a semicolon alone between each two.
func TestText(t *testing.T) {
	for _, c := range []struct {
		l    []api.Param
		want string
	}{
		{row("a", "b"), `a=b`},
		{row("A", "B"), `A=B`},
		{row("a", ""), `a=""`},
		{row("a", " "), `a=" "`},
		{row("a", "b c"), `a="b c"`},
		{row("a", "\t"), "a=\"\t\""},
		{row("a", "\x80\xff"), "a=\"\x80\xff\""},
		{row("a", `"`), `a="\""`},
		{row("a", `\`), `a="\\"`},
		{row("a", `b"c\d`), `a="b\"c\\d"`},
		{row("a", `"b"`), `a="\"b\""`},
		{row("a", "b;c=d"), `a="b;c=d"`},
		{row("a", "b", "c", "d"), `a=b;c=d`},
		{row("c", "d", "a", "b", "c", "d"), `c=d;a=b;c=d`},
		{row("a", "", "b", ";", "c", "d"), `a="";b=";";c=d`},
		{row("for", "[::1]", "host", "a:80", "proto", "http"), `for="[::1]";host="a:80";proto=http`},
		{row("!#$%&'*+-.^_`|~", "!#$%&'*+-.^_`|~"), "!#$%&'*+-.^_`|~=!#$%&'*+-.^_`|~"},
	} {
		written(t, c.l, c.want, api.OK)
	}
}

// P7.1: a row of none, names that are no tokens, values that have other bytes, at each place of a row.
func TestTextOfWrong(t *testing.T) {
	written(t, nil, "", api.ErrForm)
	written(t, []api.Param{}, "", api.ErrForm)
	for _, p := range []api.Param{
		{}, {Value: "b"}, {Name: " ", Value: "b"}, {Name: "a b", Value: "c"}, {Name: " a", Value: "b"}, {Name: "a ", Value: "b"},
		{Name: "a=", Value: "b"}, {Name: "a;b", Value: "c"}, {Name: `"a"`, Value: "b"}, {Name: "a\r\n", Value: "b"}, {Name: "\u00e4", Value: "b"}, {Name: "a\x00", Value: "b"},
		{Name: "a", Value: "\x00"}, {Name: "a", Value: "b\r\nc"}, {Name: "a", Value: "\n"}, {Name: "a", Value: "\r"}, {Name: "a", Value: "b\x7f"}, {Name: "a", Value: "\x1f"},
		{Name: "a:", Value: "\n"},
	} {
		written(t, []api.Param{p}, "", api.ErrForm)
		written(t, []api.Param{p, {Name: "x", Value: "y"}}, "", api.ErrForm)
		written(t, []api.Param{{Name: "x", Value: "y"}, p}, "", api.ErrForm)
		written(t, []api.Param{{Name: "x", Value: "y"}, p, {Name: "x", Value: "y"}}, "", api.ErrForm)
		written(t, []api.Param{p, p}, "", api.ErrForm)
	}
}

// P7.1: each of the 256 bytes in a name, and in a value.
func TestTextOfEachByte(t *testing.T) {
	for n := range 256 {
		b := string([]byte{byte(n)})
		token, value := samples.IsToken(byte(n)), samples.IsValue(byte(n))
		for _, name := range []string{b, "x" + b, b + "x"} {
			if token {
				written(t, row(name, "v"), name+"=v", api.OK)
			} else {
				written(t, row(name, "v"), "", api.ErrForm)
			}
		}
		for _, s := range []string{b, "x" + b, b + "x"} {
			switch {
			case token:
				written(t, row("n", s), "n="+s, api.OK)
			case b == `"` || b == `\`:
				written(t, row("n", s), `n="`+strings.Replace(s, b, `\`+b, 1)+`"`, api.OK)
			case value:
				written(t, row("n", s), `n="`+s+`"`, api.OK)
			default:
				written(t, row("n", s), "", api.ErrForm)
			}
		}
	}
}

// P7.2: Get tells the value of the first one of the name, folded, whatever the names are.
func TestGet(t *testing.T) {
	l := row("A", "1", "b", "", "a", "2", "b", "3", "c d", "\n", "", "4", "\u00c4", "5")
	for _, c := range []struct {
		name  string
		value string
		ok    bool
	}{
		{"A", "1", true}, {"a", "1", true}, {"b", "", true}, {"B", "", true}, {"c d", "\n", true}, {"C D", "\n", true}, {"", "4", true}, {"\u00c4", "5", true},
		{"c", "", false}, {"aa", "", false}, {" a", "", false}, {"a ", "", false}, {"1", "", false}, {"=", "", false}, {"\u00e4", "", false}, {"\x00", "", false},
	} {
		got(t, c.name, l, c.value, c.ok)
	}
	for _, name := range []string{"", "a", "\x00"} {
		got(t, name, nil, "", false)
		got(t, name, []api.Param{}, "", false)
	}
	got(t, "", row("a", "1"), "", false)
	got(t, "a", row("", "1"), "", false)
	got(t, "k", row("\u212a", "1"), "", false)
	got(t, "[", row("{", "1"), "", false)
}

// P7.2: Set gives the first one of the name the value and leaves it its name, drops those behind it, and else lays it behind all.
func TestSet(t *testing.T) {
	for _, c := range []struct {
		l           []api.Param
		name, value string
		want        []api.Param
	}{
		{nil, "a", "1", row("a", "1")},
		{[]api.Param{}, "a", "", row("a", "")},
		{nil, "", "", row("", "")},
		{row("a", "1"), "a", "2", row("a", "2")},
		{row("A", "1"), "a", "2", row("A", "2")},
		{row("a", "1"), "A", "2", row("a", "2")},
		{row("a", "1"), "a", "1", row("a", "1")},
		{row("a", "1"), "a", "", row("a", "")},
		{row("a", "1"), "b", "2", row("a", "1", "b", "2")},
		{row("a", "1"), "B", "1", row("a", "1", "B", "1")},
		{row("b", "1", "a", "2"), "c", "3", row("b", "1", "a", "2", "c", "3")},
		{row("a", "1", "b", "2", "c", "3"), "a", "9", row("a", "9", "b", "2", "c", "3")},
		{row("a", "1", "b", "2", "c", "3"), "b", "9", row("a", "1", "b", "9", "c", "3")},
		{row("a", "1", "b", "2", "c", "3"), "c", "9", row("a", "1", "b", "2", "c", "9")},
		{row("a", "1", "a", "2"), "a", "9", row("a", "9")},
		{row("A", "1", "b", "", "a", "2"), "a", "9", row("A", "9", "b", "")},
		{row("A", "1", "b", "", "a", "2"), "b", "9", row("A", "1", "b", "9", "a", "2")},
		{row("b", "1", "a", "2", "b", "3", "A", "4", "b", "5", "a", "6"), "A", "9", row("b", "1", "a", "9", "b", "3", "b", "5")},
		{row("b", "1", "b", "1", "b", "1"), "a", "9", row("b", "1", "b", "1", "b", "1", "a", "9")},
		{row("a", "9", "a", "1", "a", "9"), "a", "9", row("a", "9")},
		{row("", "1", "a", "2", "", "3"), "", "9", row("", "9", "a", "2")},
		{row("a", "1"), "", "9", row("a", "1", "", "9")},
		{row("a b", "\x00"), "A B", "\n", row("a b", "\n")},
		{row("a b", "\x00"), "=;", "\n", row("a b", "\x00", "=;", "\n")},
		{row("\u00e4", "1"), "\u00c4", "2", row("\u00e4", "1", "\u00c4", "2")},
	} {
		rows(t, "Set of "+c.name+" to "+c.value, Set(c.l, c.name, c.value), c.want)
	}
}

// isPlain: a byte of a value that in quotes stands for itself.
func isPlain(b byte) bool { return samples.IsValue(b) && b != '"' && b != '\\' }

// meaning is a text of a value, and the value that is meant by it.
type meaning struct{ text, value string }

// quotes is all quoted texts' bytes of an alphabet up to a length.
func quotes(alphabet string, most int) []meaning {
	if !strings.Contains(alphabet, `"`) {
		return nil
	}
	units := []meaning{}
	for _, u := range samples.Bytes(alphabet, isPlain) {
		units = append(units, meaning{u, u})
	}
	if strings.Contains(alphabet, `\`) {
		for _, u := range samples.Bytes(alphabet, samples.IsValue) {
			units = append(units, meaning{`\` + u, u})
		}
	}
	all := []meaning{{`""`, ""}}
	for i := 0; i < len(all); i++ {
		for _, u := range units {
			if m := all[i]; len(m.text)+len(u.text) <= most {
				all = append(all, meaning{strings.TrimSuffix(m.text, `"`) + u.text + `"`, m.value + u.value})
			}
		}
	}
	return all
}

// single is the text of one param, and the param.
type single struct {
	text  string
	param api.Param
}

// singles is all params' texts of an alphabet up to a length.
func singles(alphabet string, most int) []single {
	tokens := samples.Texts(samples.Bytes(alphabet, samples.IsToken), most-2)[1:]
	values := quotes(alphabet, most-2)
	for _, s := range tokens {
		values = append(values, meaning{s, s})
	}
	all := []single{}
	for _, name := range tokens {
		for _, v := range values {
			if s := name + "=" + v.text; len(s) <= most {
				all = append(all, single{s, api.Param{Name: name, Value: v.value}})
			}
		}
	}
	return all
}

// allRows is every row's text of an alphabet up to a length, with its params: written from the document's words, not read.
func allRows(t *testing.T, alphabet string, most int) map[string][]api.Param {
	t.Helper()
	blanks := samples.Texts(samples.Bytes(alphabet, samples.IsBlank), most)
	each := singles(alphabet, most)
	all := map[string][]api.Param{}
	texts := []string{}
	put := func(s string, l []api.Param) {
		if before, twice := all[s]; twice && !slices.Equal(before, l) {
			t.Fatalf("%q has two meanings: %q and %q", s, before, l)
		} else if !twice {
			texts = append(texts, s)
		}
		all[s] = l
	}
	for _, p := range each {
		put(p.text, []api.Param{p.param})
	}
	for i := 0; i < len(texts); i++ {
		for _, ahead := range blanks {
			for _, behind := range blanks {
				s := texts[i] + ahead + ";" + behind
				if len(s)+3 > most {
					break
				}
				for _, p := range each {
					if len(s)+len(p.text) <= most {
						put(s+p.text, append(slices.Clone(all[texts[i]]), p.param))
					}
				}
			}
		}
	}
	return all
}

// P7.1: Parse of every short text of the bytes by which it could go wrong, against all rows.
func TestEveryShortText(t *testing.T) {
	for _, c := range []struct {
		alphabet string
		most     int
	}{{`a=; `, 9}, {`a=;"`, 9}, {`a=;"\ `, 7}, {"A=;\"\\\t,\n", 6}} {
		all := allRows(t, c.alphabet, c.most)
		right, wrong := 0, 0
		for _, s := range samples.Texts(samples.Each(c.alphabet), c.most) {
			if want, is := all[s]; is {
				right++
				parsed(t, s, want, api.OK)
			} else {
				wrong++
				parsed(t, s, nil, api.ErrForm)
			}
		}
		if right < 50 || wrong < 50 || right != len(all) {
			t.Errorf("Of the bytes %q: %d rows of %d, %d that are none", c.alphabet, right, len(all), wrong)
		}
	}
}

// rowsOf is every row of some params up to a count.
func rowsOf(each []api.Param, most int) [][]api.Param {
	all := [][]api.Param{nil}
	for i := 0; i < len(all); i++ {
		if len(all[i]) < most {
			for _, p := range each {
				all = append(all, append(slices.Clone(all[i]), p))
			}
		}
	}
	return all
}

// paramsOf is each param of some names and values.
func paramsOf(names, values []string) []api.Param {
	var all []api.Param
	for _, name := range names {
		for _, value := range values {
			all = append(all, api.Param{Name: name, Value: value})
		}
	}
	return all
}

// P7.3: Parse of Text is the params, for all rows of some names and values, and for all short values.
func TestParseOfText(t *testing.T) {
	check := func(l []api.Param) {
		t.Helper()
		s, e := Text(l...)
		if e != api.OK {
			t.Errorf("Text of %q: %d", l, e)
		}
		parsed(t, s, l, api.OK)
	}
	for _, l := range rowsOf(paramsOf([]string{"a", "A", "b", "~"}, []string{"", "1", " ", `;"`, `\`, "=\t", "\xff"}), 3)[1:] {
		check(l)
	}
	for _, value := range samples.Texts(samples.Bytes("a;=\"\\ \t,\x80", samples.IsValue), 4) {
		check(row("n", value))
		check(row("n", value, "m", value))
	}
}

// P7.3: what a row's text means, written anew, means the same; and Text of it is the one form.
func TestTextOfParse(t *testing.T) {
	for s, l := range allRows(t, `a=;"\ `, 7) {
		anew, e := Text(l...)
		if e != api.OK || len(anew) > len(s) {
			t.Errorf("Text of Parse of %q: %q, %d", s, anew, e)
		}
		parsed(t, anew, l, api.OK)
	}
}

// P7.3: Get of Set is the value; all others stay, in order; and the name stands once.
func TestGetOfSet(t *testing.T) {
	names := []string{"a", "A", "b", ""}
	for _, l := range rowsOf(paramsOf(names, []string{"1", "2"}), 4) {
		for _, name := range append(names, "B", "c") {
			others := func(l []api.Param) []api.Param {
				return slices.DeleteFunc(slices.Clone(l), func(p api.Param) bool { return octet.Same(p.Name, name) })
			}
			set := Set(l, name, "9")
			got(t, name, set, "9", true)
			rows(t, "the others behind Set of "+name, others(set), others(l))
			if len(set) != len(others(l))+1 {
				t.Errorf("Set of %q in %q: %q", name, l, set)
			}
			_, had := Get(name, l...)
			first := slices.IndexFunc(l, func(p api.Param) bool { return octet.Same(p.Name, name) })
			switch {
			case had != (first >= 0):
				t.Errorf("Get of %q in %q: %v", name, l, had)
			case had:
				rows(t, "up to the one of "+name, set[:first+1], append(slices.Clone(l[:first]), api.Param{Name: l[first].Name, Value: "9"}))
			default:
				rows(t, "behind all "+name, set, append(slices.Clone(l), api.Param{Name: name, Value: "9"}))
			}
		}
	}
}

// P1: long texts and rows end, and soon: many params, blanks, escapes, semicolons, and a name held against many.
func TestLongTexts(t *testing.T) {
	const n = api.MaxText / 4
	many := strings.Repeat("a=b;", n-1) + "a=b"
	l, e := Parse(many)
	if len(l) != n || e != api.OK || l[0] != l[n-1] {
		t.Errorf("Parse of %d: %d, %d", n, len(l), e)
	}
	written(t, l, many, api.OK)
	rows(t, "Set in many", Set(l, "A", "c"), row("a", "c"))
	blanks := strings.Repeat(" \t", n)
	parsed(t, "a=b"+blanks+";"+blanks+"c=d", row("a", "b", "c", "d"), api.OK)
	escapes := `a="` + strings.Repeat(`\"`, n) + `"`
	parsed(t, escapes, row("a", strings.Repeat(`"`, n)), api.OK)
	for _, s := range []string{many + ";", "a=b" + blanks, "a=b" + blanks + ";" + blanks, blanks, escapes[:len(escapes)-1], escapes + `"`, strings.Repeat(";", n), strings.Repeat("a", n), strings.Repeat("a=", n), strings.Repeat(`a="`, n), strings.Repeat("a=b ", n)} {
		parsed(t, s, nil, api.ErrForm)
	}
	long := strings.Repeat("A", n)
	got(t, long, l, "", false)
	got(t, long, Set(l, strings.ToLower(long), "1"), "1", true)
	if set := Set(l, long, "1"); len(set) != n+1 || set[n].Name != long {
		t.Errorf("Set of a long name: %d", len(set))
	}
}

// Rule 4: rows that are handed in are not changed, neither in what they hold nor in the room behind it.
func TestRowsAreNotChanged(t *testing.T) {
	for _, call := range []func(l []api.Param){
		func(l []api.Param) { Text(l...) },
		func(l []api.Param) { Get("b", l...) },
		func(l []api.Param) { Get("x", l...) },
		func(l []api.Param) { Set(l, "a", "9") },
		func(l []api.Param) { Set(l, "B", "9") },
		func(l []api.Param) { Set(l, "c", "9") },
		func(l []api.Param) { Set(l, "x", "9") },
	} {
		all := row("A", "1", "b", " ", "a", "2", "c", "3", "d", "4")
		call(all[:3])
		rows(t, "the row", all, row("A", "1", "b", " ", "a", "2", "c", "3", "d", "4"))
	}
}

// Rule 4: what is answered is new: a change of it is told by no later call, and one of the row by no earlier answer.
func TestAnswersAreApart(t *testing.T) {
	for range 3 {
		l, e := Parse("a=b;c=d")
		rows(t, "a=b;c=d", l, row("a", "b", "c", "d"))
		if e != api.OK {
			t.Errorf("Parse: %d", e)
		}
		l[0].Value = "other"
		_ = append(l[:1], api.Param{})
	}
	for _, c := range []struct {
		name string
		want []api.Param
	}{
		{"a", row("a", "9", "b", "2")},
		{"b", row("a", "1", "b", "9")},
		{"c", row("a", "1", "b", "2", "c", "9")},
	} {
		in := row("a", "1", "b", "2")
		set := Set(in, c.name, "9")
		in[0], in[1] = api.Param{}, api.Param{}
		rows(t, "Set of "+c.name+", behind a change of the row", set, c.want)
		in = row("a", "1", "b", "2")
		set = Set(in, c.name, "9")
		for i := range set {
			set[i] = api.Param{Name: "other"}
		}
		_ = append(set[:1], api.Param{Name: "another"})
		rows(t, "the row, behind a change of Set of "+c.name, in, row("a", "1", "b", "2"))
	}
}

// The chapter's examples.
func TestExamples(t *testing.T) {
	parsed(t, `for=_a;host="x:1"`, row("for", "_a", "host", "x:1"), api.OK)
	written(t, row("by", "a b"), `by="a b"`, api.OK)
}
