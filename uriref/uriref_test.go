package uriref

import (
	"fmt"
	"regexp"
	"slices"
	"strings"
	"testing"

	"doorstep/api"
	"doorstep/samples"
)

// path, at, of, asked and marked are references: of a path alone, and with an authority, a scheme, a query or a fragment besides.
func path(s string) api.Ref { return api.Ref{Path: s} }
func at(auth string, r api.Ref) api.Ref {
	r.Auth, r.HasAuth = auth, true
	return r
}
func of(scheme string, r api.Ref) api.Ref {
	r.Scheme = scheme
	return r
}
func asked(r api.Ref, query string) api.Ref {
	r.Query, r.HasQuery = query, true
	return r
}
func fragment(r api.Ref, frag string) api.Ref {
	r.Frag, r.HasFrag = frag, true
	return r
}

// show is a reference, to be told.
func show(r api.Ref) string {
	return fmt.Sprintf("{%.60q %.60q %v %.60q %.60q %v %.60q %v}", r.Scheme, r.Auth, r.HasAuth, r.Path, r.Query, r.HasQuery, r.Frag, r.HasFrag)
}

// parsed tells whether Parse of a text answers a reference.
func parsed(t *testing.T, s string, want api.Ref) {
	t.Helper()
	if r, e := Parse(s); r != want || e != api.OK {
		t.Errorf("Parse of %.80q: %s, %d, want %s", s, show(r), e, show(want))
	}
}

// refused tells whether Parse refuses a text.
func refused(t *testing.T, s string) {
	t.Helper()
	if r, e := Parse(s); r != (api.Ref{}) || e != api.ErrForm {
		t.Errorf("Parse of %.80q: %s, %d, want ErrForm", s, show(r), e)
	}
}

// written tells whether Text of a reference answers a text.
func written(t *testing.T, r api.Ref, want string) {
	t.Helper()
	if s, e := Text(r); s != want || e != api.OK {
		t.Errorf("Text of %s: %.80q, %d, want %.80q", show(r), s, e, want)
	}
}

// unwritten tells whether Text refuses a reference.
func unwritten(t *testing.T, r api.Ref) {
	t.Helper()
	if s, e := Text(r); s != "" || e != api.ErrForm {
		t.Errorf("Text of %s: %.80q, %d, want ErrForm", show(r), s, e)
	}
}

// based tells whether Base of a reference answers what it should.
func based(t *testing.T, r api.Ref, want string) {
	t.Helper()
	if s := Base(r); s != want {
		t.Errorf("Base of %s: %.80q, want %.80q", show(r), s, want)
	}
}

// sample is a text, its reference, and what Base tells of that.
type sample struct {
	s    string
	ref  api.Ref
	base string
}

// refs are texts with and without each part, with all that is told of them.
func refs() []sample {
	none := path("")
	return []sample{
		{"", none, ""}, {"a", path("a"), ""}, {"1", path("1"), ""}, {".", path("."), ""}, {"..", path(".."), ""}, {"../a", path("../a"), ""}, {"./a:b", path("./a:b"), ""}, {"a/b:c", path("a/b:c"), ""}, {"1/b:c", path("1/b:c"), ""}, {"a/:", path("a/:"), ""}, {"a//b", path("a//b"), ""}, {"a@b", path("a@b"), ""}, {"*", path("*"), ""}, {"%3A", path("%3A"), ""}, {"a%3ab/%2F", path("a%3ab/%2F"), ""}, {"%2F%2Fa", path("%2F%2Fa"), ""},
		{"/", path("/"), ""}, {"/a", path("/a"), ""}, {"/a/", path("/a/"), ""}, {"/a//b", path("/a//b"), ""}, {"/:", path("/:"), ""}, {"/a:b", path("/a:b"), ""}, {"/http://a", path("/http://a"), ""}, {"/./b/../c", path("/./b/../c"), ""}, {"/%2f/a", path("/%2f/a"), ""}, {"/%41-._~!$&'()*+,;=:@", path("/%41-._~!$&'()*+,;=:@"), ""}, {"-._~!$&'()*+,;=@", path("-._~!$&'()*+,;=@"), ""},

		{"?", asked(none, ""), ""}, {"??", asked(none, "?"), ""}, {"?a", asked(none, "a"), ""}, {"?a?b", asked(none, "a?b"), ""}, {"?:", asked(none, ":"), ""}, {"?a:b", asked(none, "a:b"), ""}, {"?//a@b", asked(none, "//a@b"), ""}, {"a?b", asked(path("a"), "b"), ""}, {"a?b:c/d", asked(path("a"), "b:c/d"), ""}, {"/?", asked(path("/"), ""), ""}, {"/a?http://b/?c", asked(path("/a"), "http://b/?c"), ""}, {"?%23", asked(none, "%23"), ""},
		{"#", fragment(none, ""), ""}, {"#a", fragment(none, "a"), ""}, {"#?", fragment(none, "?"), ""}, {"#/?:@", fragment(none, "/?:@"), ""}, {"#a:b", fragment(none, "a:b"), ""}, {"#//a", fragment(none, "//a"), ""}, {"a#b", fragment(path("a"), "b"), ""}, {"/a#b:c", fragment(path("/a"), "b:c"), ""}, {"#%23", fragment(none, "%23"), ""},
		{"?#", fragment(asked(none, ""), ""), ""}, {"?a#", fragment(asked(none, "a"), ""), ""}, {"?#a", fragment(asked(none, ""), "a"), ""}, {"?a?b#c/d?", fragment(asked(none, "a?b"), "c/d?"), ""}, {"/a?b#c", fragment(asked(path("/a"), "b"), "c"), ""}, {"a?b#c?d", fragment(asked(path("a"), "b"), "c?d"), ""}, {"#?a", fragment(none, "?a"), ""},

		{"//", at("", none), "//"}, {"//h", at("h", none), "//h"}, {"//H.De", at("H.De", none), "//h.de"}, {"///", at("", path("/")), "//"}, {"///x", at("", path("/x")), "//"}, {"////", at("", path("//")), "//"}, {"////x", at("", path("//x")), "//"}, {"//h/", at("h", path("/")), "//h"}, {"//h//", at("h", path("//")), "//h"}, {"//h/a@b", at("h", path("/a@b")), "//h"}, {"//h/a:b", at("h", path("/a:b")), "//h"},
		{"//?", asked(at("", none), ""), "//"}, {"//#", fragment(at("", none), ""), "//"}, {"//h?", asked(at("h", none), ""), "//h"}, {"//h?/", asked(at("h", none), "/"), "//h"}, {"//h#/", fragment(at("h", none), "/"), "//h"}, {"//h?a@b#c@d", fragment(asked(at("h", none), "a@b"), "c@d"), "//h"},
		{"//h:80", at("h:80", none), "//h:80"}, {"//h:x", at("h:x", none), "//h:x"}, {"//:", at(":", none), "//:"}, {"//a:b:c/d", at("a:b:c", path("/d")), "//a:b:c"}, {"//[::FF]:80/X", at("[::FF]:80", path("/X")), "//[::ff]:80"}, {"//[", at("[", none), "//["}, {"//]a[", at("]a[", none), "//]a["}, {"//A%4A%40B", at("A%4A%40B", none), "//a%4a%40b"}, {"//-._~!$&'()*+,;=:[]", at("-._~!$&'()*+,;=:[]", none), "//-._~!$&'()*+,;=:[]"},

		{"a:", of("a", none), "a:"}, {"a:b", of("a", path("b")), "a:"}, {"A:B", of("A", path("B")), "a:"}, {"a::", of("a", path(":")), "a:"}, {"a:b:c", of("a", path("b:c")), "a:"}, {"a:1:", of("a", path("1:")), "a:"}, {"urn:a:b", of("urn", path("a:b")), "urn:"}, {"mailto:a@b", of("mailto", path("a@b")), "mailto:"}, {"a:%41", of("a", path("%41")), "a:"}, {"data:,x", of("data", path(",x")), "data:"}, {"A+1-b.9:c", of("A+1-b.9", path("c")), "a+1-b.9:"}, {"z+:", of("z+", none), "z+:"}, {"a.-+:", of("a.-+", none), "a.-+:"}, {"http:x", of("http", path("x")), "http:"}, {"http:8/0", of("http", path("8/0")), "http:"}, {"localhost:80", of("localhost", path("80")), "localhost:"},
		{"a:/", of("a", path("/")), "a:"}, {"a:/b", of("a", path("/b")), "a:"}, {"a:/:", of("a", path("/:")), "a:"}, {"a:b//c", of("a", path("b//c")), "a:"}, {"a:/b//c", of("a", path("/b//c")), "a:"}, {"x:?", asked(of("x", none), ""), "x:"}, {"x:#", fragment(of("x", none), ""), "x:"}, {"x:?#", fragment(asked(of("x", none), ""), ""), "x:"}, {"a:?//", asked(of("a", none), "//"), "a:"}, {"a:b?c:d#e:f", fragment(asked(of("a", path("b")), "c:d"), "e:f"), "a:"},

		{"a://", of("a", at("", none)), "a://"}, {"a:///", of("a", at("", path("/"))), "a://"}, {"file:///A/b", of("file", at("", path("/A/b"))), "file://"}, {"http:////x", of("http", at("", path("//x"))), "http://"}, {"http://h", of("http", at("h", none)), "http://h"}, {"HTTP://A.b:1/C", of("HTTP", at("A.b:1", path("/C"))), "http://a.b:1"}, {"http://a:1/b?c#d", fragment(asked(of("http", at("a:1", path("/b"))), "c"), "d"), "http://a:1"}, {"http://h?a", asked(of("http", at("h", none)), "a"), "http://h"}, {"http://h#a", fragment(of("http", at("h", none)), "a"), "http://h"}, {"http://?#", fragment(asked(of("http", at("", none)), ""), ""), "http://"}, {"http://http://a", of("http", at("http:", path("//a"))), "http://http:"}, {"hTTps://[::1]:443/%7Ea", of("hTTps", at("[::1]:443", path("/%7Ea"))), "https://[::1]:443"},
	}
}

// P11.1: references with and without each part, and their parts as they stand.
func TestParse(t *testing.T) {
	for _, c := range refs() {
		parsed(t, c.s, c.ref)
	}
}

// wrongs are texts that are no reference, or none that is well formed.
var wrongs = []string{
	// A colon ahead of the first slash, and no scheme ahead of that.
	":", "::", ":a", ":/", "://", "://a", ":a/b", "1:", "1:b", "1a:b", "+:a", "+a:b", "-:a", "-a:b", ".:a", ".a:b", "..:b", "a_b:c", "a~:b", "a!b:c", "a@b:c", "a,b:c", "a;b=c:d", "*:80", "%41:b", "a%41:b", "a%3A:b", "1:b?c", "1:b#c", "1:b/c", "1:/", "1://a", ":?", ":#", "1.2.3.4:80", "1:b:c",
	// Bytes that stand in no part.
	" ", "a ", " a", "a b", "a:b c", "/ ", "//a b", "//a /", "http://a b/", "?a b", "# ", "a?b c#d", "\t", "/a\t", "a\r\n", "/a\n", "?\n", "#\n", "//a\n", "\x00", "a\x00", "\x7f", "\x80", "/\xff", "//\xff", "?\xff", "#\x80", "\u00e4", "/\u00e4", "//\u00e4", "?\u00e4", "#\u00e4", `"`, `/"a"`, "\\", "/\\", "//a\\b", "\\\\a", "http:\\\\a", "<a>", "?<", "#>", "^", "`", "/{a}", "|", "?a|b", "a:|", "//a^",
	"a :b", "a: b", " a:b", "\u017f:b", "\u212a:b", "\u00e4:b", "a\x00:b", "a\u00e4:b", "a\xff:b", "http\uff1a//a", "a:\x00",
	// Bytes that stand in other parts alone.
	"[", "]", "a[0]", "[::1]", "[::1]:80", "/[", "/a]", "?[", "?a[0]=b", "#]", "#a[", "//a/[", "//a/]", "//a?[", "//a?]", "//a#[", "//a#]", "a:[", "a:/]", "http://[::1]/[", "//@", "//a@", "//@a", "//a@b", "//u:p@h/", "http://@", "http://u@h", "http://u:p@h/x", "a://@/", "//a@?", "//a@#", "///[", "////]",
	"##", "#a#", "#a#b", "a#b#c", "?#?#", "?a#b#", "/a?b#c#d", "//a#b#", "x:##", "#a?b#c",
	// Escapes that are none.
	"%", "%%", "%4", "%4g", "%g4", "%%41", "%4%1", "a%", "a%4", "%41%", "%41%4", "/%", "/%4", "/a%4g", "/%/41", "/%4/1", "%/", "?%", "?%4", "?%4g", "?a%g4", "?%?41", "?%4?1", "?%/41", "#%", "#%4", "#%4g", "#%?41", "//%", "//%4", "//%4g", "//a%g4/", "//%/41", "//%4/1", "//a%?41", "//a%4?1", "//%#41", "%?41", "%4?1", "%#41", "%4#1", "?%#41", "?%4#1", "a:%", "a:%4", "a:%4g", "a:/%4g", "%4:1", "%:41", "//[%]", "//%4]", "//%:41", "/% 4", "/%+4", "/%-1", "/%0x", "/%\x004", "/%\u00e4", "http://a%/", "a://%zz",
}

// P11.1: what is no reference, or none that is well formed.
func TestParseOfWrong(t *testing.T) {
	for _, s := range wrongs {
		refused(t, s)
	}
}

// Regular expressions that say the document's words once more.
const (
	escapeWord = `%[0-9A-Fa-f]{2}`
	pathWord   = `[A-Za-z0-9\-._~!$&'()*+,;=:@]|` + escapeWord
	authWord   = `[A-Za-z0-9\-._~!$&'()*+,;=:\[\]]|` + escapeWord
)

var (
	refWords   = regexp.MustCompile(`^(?:([A-Za-z][A-Za-z0-9+\-.]*):)?(//(?:` + authWord + `)*)?((?:` + pathWord + `|/)*)(\?(?:` + pathWord + `|[/?])*)?(#(?:` + pathWord + `|[/?])*)?$`)
	colonFirst = regexp.MustCompile(`^[^/]*:`)
)

// isWellFormed is said of a reference whose parts are of their bytes.
func isWellFormed(r api.Ref) bool {
	if r.HasAuth {
		return r.Path == "" || strings.HasPrefix(r.Path, "/")
	}
	return !strings.HasPrefix(r.Path, "//") && (r.Scheme != "" || !colonFirst.MatchString(r.Path))
}

// byWords is the reference that a text is, by the document's words.
func byWords(s string) (api.Ref, bool) {
	m := refWords.FindStringSubmatch(s)
	if m == nil {
		return api.Ref{}, false
	}
	r := of(m[1], path(m[3]))
	if m[2] != "" {
		r = at(m[2][2:], r)
	}
	if m[4] != "" {
		r = asked(r, m[4][1:])
	}
	if m[5] != "" {
		r = fragment(r, m[5][1:])
	}
	return r, isWellFormed(r)
}

// heldAgainstWords tells whether Parse of a text answers what the document's words say, and, of a reference, whether Text of that is the text. It answers whether it is one.
func heldAgainstWords(t *testing.T, s string) bool {
	t.Helper()
	want, is := byWords(s)
	if !is {
		refused(t, s)
		return false
	}
	parsed(t, s, want)
	written(t, want, s)
	return true
}

// P11.1: the words' own reader tells of the samples what they are, so that it is to be leant on.
func TestWords(t *testing.T) {
	for _, c := range refs() {
		if r, is := byWords(c.s); !is || r != c.ref {
			t.Errorf("by the words %q is %s, %v", c.s, show(r), is)
		}
	}
	for _, s := range wrongs {
		if r, is := byWords(s); is {
			t.Errorf("by the words %q is %s", s, show(r))
		}
	}
}

// P11.1, P11.4: Parse of every short text, behind nothing and behind what references begin with, against the document's words.
func TestParseOfEveryShortText(t *testing.T) {
	for _, c := range []struct {
		ahead []string
		bytes string
		most  int
	}{
		{[]string{""}, "/?#:a", 7}, {[]string{""}, "/:a1+@", 6}, {[]string{""}, "/:[]a@", 6}, {[]string{""}, "%4g/:", 7}, {[]string{""}, "%fF?#", 7}, {[]string{""}, "A.-:/ ", 6},
		{[]string{"//", "a://", "a:/"}, "/?#:@[%0", 5}, {[]string{"//a", "A+9://", "//[::1]"}, "/?#:]@", 5}, {[]string{"//%", "/%", "?%", "#%", "a:%"}, "/?#0F%", 5}, {[]string{"a", "a:b", "/a", "a/b"}, "/?#:[", 5}, {[]string{"1", ".", "%41", "@", "-"}, "/?#:a", 5},
	} {
		right, wrong := 0, 0
		for _, ahead := range c.ahead {
			for _, s := range samples.Texts(samples.Each(c.bytes), c.most) {
				if heldAgainstWords(t, ahead+s) {
					right++
				} else {
					wrong++
				}
			}
		}
		if right == 0 || wrong == 0 {
			t.Errorf("%q behind %q: %d right, %d wrong", c.bytes, c.ahead, right, wrong)
		}
	}
}

// P11.1: each of the 256 bytes at each place of references, in the stead of the one there and ahead of it, and each of these left out, against the document's words.
func TestEachByteAtEachPlace(t *testing.T) {
	for _, s := range []string{"HT.tp://[a]:1/b%4F?c/?#d/?", "//h%4f/b:c", "a+b-c:d:e/f", "ab/c:d", "/a%41?b%42#c%43", "a://?#", "file:///", "?", "#", ""} {
		for _, nearby := range samples.Nearby(s) {
			heldAgainstWords(t, nearby)
		}
	}
}

// P11.1: each of the 256 bytes in each part, by the lists of bytes themselves.
func TestEachByteOfEachPart(t *testing.T) {
	for n := range 256 {
		b := string([]byte{byte(n)})
		inPath := samples.IsPath(byte(n))
		for _, c := range []struct {
			s   string
			ref api.Ref
			is  bool
		}{
			{b + ":", of(b, path("")), samples.IsLetter(byte(n))},
			{"x" + b + ":y", of("x"+b, path("y")), samples.IsLetter(byte(n)) || samples.IsDigit(byte(n)) || strings.Contains("+-.", b)},
			{"//x" + b + "y", at("x"+b+"y", path("")), inPath && b != "@" || b == "[" || b == "]"},
			{"/x" + b + "y", path("/x" + b + "y"), inPath || b == "/"},
			{"?x" + b + "y", asked(path(""), "x"+b+"y"), inPath || b == "/" || b == "?"},
			{"#x" + b + "y", fragment(path(""), "x"+b+"y"), inPath || b == "/" || b == "?"},
			{"//%" + b + "f", at("%"+b+"f", path("")), samples.IsHex(byte(n))},
			{"/%f" + b, path("/%f" + b), samples.IsHex(byte(n))},
			{"?%" + b + "0", asked(path(""), "%"+b+"0"), samples.IsHex(byte(n))},
			{"#%0" + b, fragment(path(""), "%0"+b), samples.IsHex(byte(n))},
		} {
			if c.is {
				parsed(t, c.s, c.ref)
			} else if r, _ := Parse(c.s); r == c.ref {
				t.Errorf("Parse of %q: %s", c.s, show(r))
			}
			heldAgainstWords(t, c.s)
		}
	}
}

// P11.2, P11.4: the text of each reference is the text that it is of.
func TestText(t *testing.T) {
	for _, c := range refs() {
		written(t, c.ref, c.s)
	}
}

// P11.2: references of which Parse tells of no text.
func TestTextOfWrong(t *testing.T) {
	none := path("")
	for _, r := range []api.Ref{
		{Auth: "a"}, {Auth: "a", Path: "/b"}, {Query: "a"}, {Frag: "a"}, {Path: "/", Query: "?"}, {Path: "/", Frag: "#"}, {Scheme: "a", Auth: "b"}, {Auth: " ", Query: " ", Frag: " "}, {HasAuth: true, Query: "x"}, {HasQuery: true, Frag: "x"}, {HasFrag: true, Auth: "x"},

		path("//"), path("//a"), path("///"), path("//a/b"), of("a", path("//")), of("a", path("//b")), asked(path("//"), ""), fragment(path("//a"), "b"),
		path(":"), path("a:"), path("a:b"), path("1:b"), path("a:/"), path("a://b"), path(":/a"), path("%41:"), asked(path("a:b"), "c"), fragment(path("1:b"), "c"),
		path("?"), path("/?"), path("/?a"), path("#"), path("/#a"), path("a?b#c"), path(" "), path("/a b"), path("["), path("%"), path("/%4"), path("/%4g"), path("\x00"), path("/\xff"), of("a", path("?")), of("a", path("#")), at("a", path("/?")), at("a", path("/#")),

		at("a", path("b")), at("a", path(":80")), at("a", path("@b")), at("", path("a")), at("", path("a/b")), at("a", path("%41")), of("a", at("b", path("c"))), of("a", at("", path("b"))),
		at("/", none), at("a/", none), at("a/b", none), at("a/b", path("/c")), at("a?", none), at("a?b", none), at("a#", none), at("@", none), at("a@b", none), at("a b", none), at("%", none), at("%4", none), at("%", path("41")), at("%", path("/41")), at("%4", path("1/")), at("\x00", none), at("\xff", none), at("a\\b", none),

		of(":", none), of("a:", none), of("a:b", none), of("a:", path("b")), of("1", none), of("1a", path("b")), of("+", none), of("-a", none), of(".", none), of("a_b", none), of("a b", none), of(" a", none), of("a/", none), of("a/b", none), of("/", none), of("//a", none), of("a?", none), of("a#", none), of("?a", none), of("#a", none), of("%41", none), of("a%41", none), of("a@b", none), of("\u017f", none), of("a\x00", none), of("a://", at("b", none)), of("1", at("a", none)),

		asked(none, "#"), asked(none, "a#b"), asked(none, " "), asked(none, "["), asked(none, "%"), asked(none, "%4"), asked(none, "%4g"), asked(none, "\xff"), asked(path("/%"), "41"), asked(path("?"), ""), asked(path("a?b"), "c"), asked(path("#"), "a"),
		fragment(none, "#"), fragment(none, "a#b"), fragment(none, " "), fragment(none, "]"), fragment(none, "%"), fragment(none, "%4g"), fragment(none, "\x80"), fragment(asked(none, "%"), "41"), fragment(asked(none, "#"), ""), fragment(path("#"), ""), fragment(path("?"), ""),
	} {
		unwritten(t, r)
	}
}

// nearRefs goes over every row of parts, of those that are near references, until one is told wrong: of so many, one fault would be told too often.
func nearRefs(t *testing.T, tell func(r api.Ref)) {
	t.Helper()
	paths := []string{"", "/", "//", "///", "a", "a/", "a:b", "a/b:c", ":", ":8", "1:", "/:", "//a", "/a@b", "?", "/?x", "#", "/%", "%4f", "/%4", "41", "/[", " "}
	rests := []string{"", "x", "/?", ":", "#", "%", "%41", "41", "["}
	has := []bool{false, true}
	for _, scheme := range []string{"", "a", "A+1-.", "1", "a:", "a/", "+", "%41", "?", "#", "//h", "a b"} {
		for _, auth := range []string{"", "h", "H:80", "[::1]", "a@b", "a/b", "%4F", "%", "?", "#"} {
			for _, hasAuth := range has {
				for _, p := range paths {
					for _, query := range rests {
						for _, frag := range rests {
							if t.Failed() {
								return
							}
							for i := range 4 {
								tell(api.Ref{Scheme: scheme, Auth: auth, HasAuth: hasAuth, Path: p, Query: query, HasQuery: has[i/2], Frag: frag, HasFrag: has[i%2]})
							}
						}
					}
				}
			}
		}
	}
}

// textByWords is what stands for a reference, by the document's words: each part that is there, with its mark.
func textByWords(r api.Ref) string {
	s := baseByWords(r) + r.Path
	if r.HasQuery {
		s += "?" + r.Query
	}
	if r.HasFrag {
		s += "#" + r.Frag
	}
	return s
}

// baseByWords is its scheme and its authority, as they stand.
func baseByWords(r api.Ref) string {
	s := ""
	if r.Scheme != "" {
		s += r.Scheme + ":"
	}
	if r.HasAuth {
		s += "//" + r.Auth
	}
	return s
}

// isRefByWords is said of a reference each of whose parts is of its own bytes, and is there if it has any, and that is well formed; its text plays no part.
func isRefByWords(r api.Ref) bool {
	return (r.Scheme == "" || schemeWords.MatchString(r.Scheme)) && (r.HasAuth || r.Auth == "") && (r.HasQuery || r.Query == "") && (r.HasFrag || r.Frag == "") &&
		authWords.MatchString(r.Auth) && pathWords.MatchString(r.Path) && restWords.MatchString(r.Query) && restWords.MatchString(r.Frag) && isWellFormed(r)
}

var (
	schemeWords = regexp.MustCompile(`^[A-Za-z][A-Za-z0-9+\-.]*$`)
	authWords   = regexp.MustCompile(`^(?:` + authWord + `)*$`)
	pathWords   = regexp.MustCompile(`^(?:` + pathWord + `|/)*$`)
	restWords   = regexp.MustCompile(`^(?:` + pathWord + `|[/?])*$`)
)

// P11.1, P11.2, P11.4: Text of all that is near a reference is its text, or refused; and Parse of it the reference.
func TestTextOfEveryNearRef(t *testing.T) {
	right, wrong := 0, 0
	nearRefs(t, func(r api.Ref) {
		if !isRefByWords(r) {
			wrong++
			unwritten(t, r)
			return
		}
		right++
		s := textByWords(r)
		written(t, r, s)
		parsed(t, s, r)
	})
	if !t.Failed() && (right < 1000 || wrong < 1000) {
		t.Errorf("%d right, %d wrong", right, wrong)
	}
}

// P11.2: scheme and authority of each reference, folded.
func TestBase(t *testing.T) {
	for _, c := range refs() {
		based(t, c.ref, c.base)
	}
}

// P11.2: scheme and authority of all that is near a reference, whatever else stands in it: nothing is refused.
func TestBaseOfEveryNearRef(t *testing.T) {
	nearRefs(t, func(r api.Ref) { based(t, r, strings.ToLower(baseByWords(r))) })
}

// P11.2: letters of ASCII alone are folded, in both parts.
func TestBaseFoldsLetters(t *testing.T) {
	for n := range 256 {
		b := string([]byte{byte(n)})
		folded := b
		if n >= 'A' && n <= 'Z' {
			folded = string([]byte{byte(n) + 32})
		}
		based(t, of(b+"X", at("Y"+b, path(b))), folded+"x://y"+folded)
		based(t, asked(of("Z"+b, path(b)), b), "z"+folded+":")
		based(t, fragment(at(b, path("/"+b)), b), "//"+folded)
	}
	based(t, api.Ref{Auth: "a", Query: "b", Frag: "c"}, "")
	based(t, of("\u00c4", at("\u212a", path(""))), "\u00c4://\u212a")
}

// swapped tells whether Swap answers what it should.
func swapped(t *testing.T, s string, l []api.Swap, want string, wantOK bool) {
	t.Helper()
	if got, ok := Swap(s, l...); got != want || ok != wantOK {
		t.Errorf("Swap of %.80q by %.200q: %.80q, %v, want %.80q, %v", s, l, got, ok, want, wantOK)
	}
}

// row is a list of what takes the place of what.
func row(l ...string) []api.Swap {
	var all []api.Swap
	for i := 0; i+1 < len(l); i += 2 {
		all = append(all, api.Swap{From: l[i], To: l[i+1]})
	}
	return all
}

// P11.3: another beginning in the place of the first one that is there, and ends where a segment or a part does.
func TestSwap(t *testing.T) {
	for _, c := range []struct {
		s    string
		l    []api.Swap
		want string
		ok   bool
	}{
		{"http://up/x", row("http://up", "https://a"), "https://a/x", true}, {"http://up", row("http://up", "https://a"), "https://a", true}, {"http://up?x", row("http://up", "https://a"), "https://a?x", true}, {"http://up#x", row("http://up", "https://a"), "https://a#x", true}, {"http://up/", row("http://up/", "https://a/"), "https://a/", true}, {"http://up/x", row("http://up/", "/"), "/x", true}, {"http://up//x", row("http://up/", "/y/"), "/y//x", true},
		{"http://up.de/x", row("http://up", "https://a"), "http://up.de/x", false}, {"http://up:80/x", row("http://up", "https://a"), "http://up:80/x", false}, {"http://up@x", row("http://up", "https://a"), "http://up@x", false}, {"http://up", row("http://up/", "https://a/"), "http://up", false}, {"HTTP://up/x", row("http://up", "https://a"), "HTTP://up/x", false}, {"http://Up/x", row("http://up", "https://a"), "http://Up/x", false}, {"http://up", row("http://upx", "y"), "http://up", false}, {"x/http://up/", row("http://up", "y"), "x/http://up/", false},
		{"http://up/x", row("http://", "https://"), "https://up/x", true}, {"http://up/x", row("http:/", "y"), "y/up/x", true}, {"http://up/x", row("http:", "https:"), "https://up/x", true}, {"http:x", row("http:", "https:"), "http:x", false}, {"/a/b", row("/", "/y/"), "/y/a/b", true}, {"//a", row("/", "y"), "y/a", true}, {"/", row("/", "y"), "y", true}, {"/", row("/", ""), "", true},
		{"/a/b", row("/a", "y"), "y/b", true}, {"/a", row("/a", "y"), "y", true}, {"/a?b", row("/a", "y"), "y?b", true}, {"/a#b", row("/a", "y"), "y#b", true}, {"/ab", row("/a", "y"), "/ab", false}, {"/a.", row("/a", "y"), "/a.", false}, {"/a%2Fb", row("/a", "y"), "/a%2Fb", false}, {"/a\\b", row("/a", "y"), "/a\\b", false}, {"/a:", row("/a", "y"), "/a:", false}, {"/a;b", row("/a", "y"), "/a;b", false}, {"/a&b", row("/a", "y"), "/a&b", false}, {"/a b", row("/a", "y"), "/a b", false}, {"/A/b", row("/a", "y"), "/A/b", false},
		{"/a?b=c", row("/a?b", "y"), "/a?b=c", false}, {"/a?b/c", row("/a?b", "y"), "y/c", true}, {"/a?b?c", row("/a?b", "y"), "y?c", true}, {"/a?b#c", row("/a?b", "y"), "y#c", true}, {"/a?", row("/a?", "y"), "y", true}, {"/a?b", row("/a?", "y"), "/a?b", false}, {"/a?/b", row("/a?", "y"), "y/b", true}, {"/a#b", row("/a#", "y"), "/a#b", false}, {"/a?/b", row("/a?/", "y"), "yb", true},

		{"/a", nil, "/a", false}, {"", nil, "", false}, {"", row("", "y"), "", false}, {"/a", row("", "y"), "/a", false}, {"/a", row("", "y", "/a", "z"), "z", true}, {"", row("a", "y"), "", false}, {"", row("/", "y"), "", false}, {"/a", row("/a", ""), "", true}, {"/a/b", row("/a", ""), "/b", true}, {"/a/b", row("/a/b", "/a/b"), "/a/b", true}, {"/a/b", row("/a", "/a"), "/a/b", true},
		{"/a/b", row("/a/b/", "x", "/a", "y"), "y/b", true}, {"/a/b", row("/a", "x", "/a/b", "y"), "x/b", true}, {"/a/b", row("/a/b", "x", "/a", "y"), "x", true}, {"/a/b", row("/a", "x", "/a", "y"), "x/b", true}, {"/a/b", row("/a", "/c", "/c", "/d"), "/c/b", true}, {"/a/a/b", row("/a", "y"), "y/a/b", true}, {"/ab", row("/a", "x", "/b", "y", "/ab", "z"), "z", true}, {"/ab", row("/a", "x", "/abc", "y"), "/ab", false}, {"/a/b", row("b", "x", "/b", "y"), "/a/b", false},
		// Neither needs be a reference.
		{"a b", row("a b", "c d"), "c d", true}, {"\xff/", row("\xff", "\xfe"), "\xfe/", true}, {"\xff\xfe", row("\xff", "x"), "\xff\xfe", false}, {"%/4", row("%", "%%"), "%%/4", true}, {"\u00e4/b", row("\u00e4", "\x00"), "\x00/b", true}, {"\u00e4", row("\xc3", "x"), "\u00e4", false}, {"##", row("#", "?"), "?#", true},
	} {
		swapped(t, c.s, c.l, c.want, c.ok)
	}
}

// P11.3: each of the 256 bytes behind a beginning, and as the last one of it.
func TestSwapByEachByte(t *testing.T) {
	for n := range 256 {
		b := string([]byte{byte(n)})
		for _, rest := range []string{"", "x", "/", "\x80"} {
			s := "/a" + b + rest
			if strings.Contains("/?#", b) {
				swapped(t, s, row("/a", "y"), "y"+b+rest, true)
			} else {
				swapped(t, s, row("/a", "y"), s, false)
			}
			if b == "/" || rest == "" || rest == "/" {
				swapped(t, s, row("/a"+b, "y"), "y"+rest, true)
			} else {
				swapped(t, s, row("/a"+b, "y"), s, false)
			}
		}
	}
}

// swapByWords is what Swap tells by the document's words.
func swapByWords(s string, l []api.Swap) (string, bool) {
	for _, swap := range l {
		n := len(swap.From)
		if n == 0 || n > len(s) || s[:n] != swap.From {
			continue
		}
		if swap.From[n-1] == '/' || n == len(s) || s[n] == '/' || s[n] == '?' || s[n] == '#' {
			return swap.To + s[n:], true
		}
	}
	return s, false
}

// P11.3: Swap of every short text by every short beginning, and by every row of some beginnings, against the document's words.
func TestSwapOfEveryShortText(t *testing.T) {
	units := samples.Each("/?#a:")
	for _, s := range samples.Texts(units, 5) {
		for _, from := range samples.Texts(units, 3) {
			l := row(from, "y")
			want, ok := swapByWords(s, l)
			swapped(t, s, l, want, ok)
		}
	}
	some := []string{"", "/", "/a", "/a/", "a", "a/b", "?", "/a?"}
	for _, s := range samples.Texts(samples.Each("/?ab"), 5) {
		for _, x := range some {
			for _, y := range some {
				for _, z := range some {
					l := row(x, "1", y, "/2/", z, "")
					want, ok := swapByWords(s, l)
					swapped(t, s, l, want, ok)
				}
			}
		}
	}
}

// P11.3: as many as there are; the first of them that may takes the place, however far behind it stands.
func TestSwapOfManyRows(t *testing.T) {
	var l []api.Swap
	for range 1 << 16 {
		l = append(l, api.Swap{From: "/b", To: "x"}, api.Swap{To: "y"})
	}
	swapped(t, "/a/c", l, "/a/c", false)
	l = append(l, row("/a/c/", "x", "/a", "z", "/a/c", "x")...)
	swapped(t, "/a/c", l, "z/c", true)
	swapped(t, "/b", l, "x", true)
}

// P1, rule 4: lists that are handed in are not changed, neither in what they hold nor in the room behind it, and not kept.
func TestListsAreNotChanged(t *testing.T) {
	all := row("/b", "x", "/a", "y", "/a", "behind", "/c", "behind it")
	kept := slices.Clone(all)
	for range 2 {
		swapped(t, "/a/b", all[:2], "y/b", true)
		swapped(t, "/c", all[:2], "/c", false)
	}
	if !slices.Equal(all, kept) {
		t.Errorf("the list: %q", all)
	}
	all[1].To = "other"
	swapped(t, "/a/b", all[:2], "other/b", true)
}

// long is a unit as often as it goes into a text.
func long(unit string) string { return strings.Repeat(unit, api.MaxText/len(unit)) }

// P1: every call ends soon of long references.
func TestLongRefs(t *testing.T) {
	told := func(is bool, s string, want api.Ref) {
		t.Helper()
		if is {
			parsed(t, s, want)
			written(t, want, s)
		}
	}
	for _, c := range []struct {
		unit                     string
		isScheme, isAuth, isPath bool // as often as it goes; a query and a fragment each of them is
	}{
		{"a", true, true, true}, {"a1", true, true, true}, {"a+.-", true, true, true}, {"%41", false, true, true}, {":", false, true, true}, {"a:", false, true, true}, {"@", false, false, true}, {"/", false, false, true}, {"a/..", false, false, true}, {"a:/@", false, false, true}, {"?", false, false, false}, {"/?", false, false, false},
	} {
		s := long(c.unit)
		told(c.isScheme, s+":", of(s, path("")))
		told(c.isAuth, "//"+s, at(s, path("")))
		told(c.isAuth, "a://"+s+"/?#", fragment(asked(of("a", at(s, path("/"))), ""), ""))
		told(c.isPath, "x/"+s, path("x/"+s))
		told(c.isPath, "a:x"+s, of("a", path("x"+s)))
		told(c.isPath, "//h/"+s, at("h", path("/"+s)))
		told(true, "?"+s, asked(path(""), s))
		told(true, "a:#"+s, fragment(of("a", path("")), s))
		told(true, "//h/?"+s+"#"+s, fragment(asked(at("h", path("/")), s), s))
		based(t, of(s, at(s, path(s))), s+"://"+s)
		swapped(t, s+"/b", row(s+"/a", "x", s+"c", "y", s, "z"), "z/b", true)
		swapped(t, s, row(s+"/", "x"), s, false)
	}
}

// P1: every call ends soon of long texts that are in no reference.
func TestLongTextsOfWrong(t *testing.T) {
	for _, unit := range []string{"%", "%4", "%g", "#", " ", "[]#", "\x00", "\xff", "%41%"} {
		s := long(unit)
		for _, text := range []string{s, "/" + s, "//" + s, "//h/" + s, "?" + s, "#" + s, "a:" + s, "a://" + s, "/a?" + s, "//h?" + s + "#", s + ":", s + "/:", s + "#" + s} {
			refused(t, text)
		}
		for _, r := range []api.Ref{path(s), path("/" + s), of(s, path("")), at(s, path("")), at("h", path(s)), asked(path(""), s), fragment(path(""), s), {Auth: s}, {Query: s}, {Frag: s}} {
			unwritten(t, r)
		}
		based(t, of(s, at(s, path(s))), s+"://"+s)
		swapped(t, s, row(s, "y"), "y", true)
	}
	for _, s := range []string{long(":"), long("a@:"), long("1:"), "1" + long("a") + ":", long("a") + "_:", long("a@") + ":/", "//" + long("@"), "//" + long("a") + "@/"} {
		refused(t, s)
		unwritten(t, path(s))
	}
}

// The chapter's examples.
func TestExamples(t *testing.T) {
	parsed(t, "http://a:1/b?c#d", api.Ref{Scheme: "http", Auth: "a:1", HasAuth: true, Path: "/b", Query: "c", HasQuery: true, Frag: "d", HasFrag: true})
	swapped(t, "http://up/x", row("http://up", "https://a"), "https://a/x", true)
}
