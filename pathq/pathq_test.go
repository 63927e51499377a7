package pathq

import (
	"slices"
	"strings"
	"testing"

	"doorstep/api"
	"doorstep/samples"
)

// asked tells whether a question about a text is answered as it should be.
func asked(t *testing.T, what string, is func(string) bool, s string, want bool) {
	t.Helper()
	if is(s) != want {
		t.Errorf("%s of %.80q: %v, want %v", what, s, !want, want)
	}
}

// cut tells whether Cut of a text answers what it should.
func cut(t *testing.T, s, path, query string, has bool) {
	t.Helper()
	if p, q, h, e := Cut(s); p != path || q != query || h != has || e != api.OK {
		t.Errorf("Cut of %.80q: %.80q, %.80q, %v, %d, want %.80q, %.80q, %v", s, p, q, h, e, path, query, has)
	}
}

// uncut tells whether Cut refuses a text.
func uncut(t *testing.T, s string) {
	t.Helper()
	if p, q, h, e := Cut(s); p != "" || q != "" || h || e != api.ErrForm {
		t.Errorf("Cut of %.80q: %.80q, %.80q, %v, %d, want ErrForm", s, p, q, h, e)
	}
}

// dotted tells whether Dots of a text answers what it should: a path, or an error and the empty text.
func dotted(t *testing.T, s, want string, wantE api.Errno) {
	t.Helper()
	if d, e := Dots(s); d != want || e != wantE {
		t.Errorf("Dots of %.80q: %.80q, %d, want %.80q, %d", s, d, e, want, wantE)
	}
}

// bytesOf is the bytes and the escapes of an alphabet that stand in paths and queries, without their marks.
func bytesOf(alphabet string) []string {
	return append(samples.Bytes(alphabet, samples.IsPath), samples.Escapes(alphabet)...)
}

// allPaths is every path of an alphabet's bytes up to a length, made from the document's words.
func allPaths(alphabet string, most int) samples.Set {
	all := samples.Set{}
	for _, s := range samples.Texts(append(bytesOf(alphabet), "/"), most-1) {
		all["/"+s] = true
	}
	return all
}

// allQueries is every query of an alphabet's bytes up to a length, made from the document's words.
func allQueries(alphabet string, most int) samples.Set {
	return samples.SetOf(samples.Texts(append(bytesOf(alphabet), "/", "?"), most)...)
}

// alphabets are bytes by which paths and queries could go wrong, each with the length of its longest texts.
var alphabets = []struct {
	bytes string
	most  int
}{{"/?a", 9}, {"/?%0", 8}, {"/?%fG", 7}, {"/?.%A#", 6}, {"/?:@& ", 6}, {"/?a\\[\x00\xff", 5}}

// P9.1: a path: one or more times a slash and any path's bytes.
func TestPath(t *testing.T) {
	for _, s := range []string{
		"/", "//", "///", "/a", "/a/", "/a/b", "//a", "/a//b", "/.", "/..", "/./", "/a/../b", "/:", "/@", "/a:b@c", "/;a=b", "/a,b", "/*",
		"/%00", "/%ff", "/%FF", "/%fF", "/%2F", "/%2e%2e", "/a%20b", "/%25", "/%2525", "/%41%42", "/%e4/%F6",
		"/abcdefghijklmnopqrstuvwxyzABCDEFGHIJKLMNOPQRSTUVWXYZ0123456789" + "-._~!$&'()*+,;=:@",
	} {
		asked(t, "Path", Path, s, true)
	}
	for _, s := range []string{
		"", "a", ".", "..", "a/", "a/b", "./a", "*", ":", "%2F", "%2Fa", "?", "?/", "?x", " /", "http://a/", "\\", "\\a",
		"/?", "/a?", "/a?b", "/#", "/a#b", "/ ", "/a b", "/a\t", "/a\r\n", "/\n", "/[", "/]", "/[::1]", `/"`, "/\\", "/a|b", "/^", "/`", "/{a}", "/<a>",
		"/%", "/%%", "/%4", "/%4g", "/%g4", "/%%41", "/%4%1", "/a%", "/a%4", "/%41%", "/%41%4", "/%/41", "/%4/1", "/%4:", "/%-1", "/%+1", "/% 4", "/%0x", "/%\x004",
		"/\x00", "/a\x7f", "/\x80", "/\xff", "/\u00e4", "\u2215", "/\uff0f",
	} {
		asked(t, "Path", Path, s, false)
	}
}

// P9.1: a query: path's bytes, slashes and question marks, in any order, or nothing.
func TestQuery(t *testing.T) {
	for _, s := range []string{
		"", "/", "?", "??", "/?", "?/", "a", "a=b", "a=b&c=d", "a/b?c", "?a", "a?", "//", "a/../b", "..", ":", "@", "a:b@c", "%00", "%3F", "%23", "a%20b", "%e4%F6",
		"abcdefghijklmnopqrstuvwxyzABCDEFGHIJKLMNOPQRSTUVWXYZ0123456789" + "-._~!$&'()*+,;=:@/?",
	} {
		asked(t, "Query", Query, s, true)
	}
	for _, s := range []string{
		" ", "a b", "a#b", "#", "a#", "\t", "a\r\n", "\n", "[", "]", "a[0]=b", `"a"`, `a\b`, "a|b", "^", "`", "{a}", "<a>",
		"%", "%%", "%4", "%4g", "%g4", "%%41", "%4%1", "a%", "a%4", "%41%", "%41%4", "%?41", "%4?1", "%/4", "%4/", "%4?", "?%4",
		"\x00", "a\x7f", "\x80", "\xff", "\u00e4", "\uff1f",
	} {
		asked(t, "Query", Query, s, false)
	}
}

// P9.1: each of the 256 bytes at each place of a path and a query, and of an escape.
func TestEachByte(t *testing.T) {
	for n := range 256 {
		b := string([]byte{byte(n)})
		plain, hex := samples.IsPath(byte(n)), samples.IsHex(byte(n))
		for _, s := range []string{b, b + "x", "x" + b, "x" + b + "x", b + b, "%4f" + b, b + "%4f", "/" + b + "/"} {
			asked(t, "Path", Path, "/"+s, plain || b == "/")
			asked(t, "Query", Query, s, plain || b == "/" || b == "?")
		}
		asked(t, "Path", Path, "/%4f"+b+"00y", plain || b == "/" || b == "%")
		asked(t, "Query", Query, "%4f"+b+"00y", plain || b == "/" || b == "?" || b == "%")
		for _, s := range []string{b, b + "x", b + "/", b + "/x", b + "00/", b + "2F"} {
			asked(t, "Path", Path, s, b == "/")
		}
		for _, s := range []string{"%" + b + "0", "%0" + b, "x%a" + b + "x", "x%" + b + "Fx", "%" + b + b, "/%" + b + "A/"} {
			asked(t, "Path", Path, "/"+s, hex)
			asked(t, "Query", Query, s, hex)
		}
		for _, s := range []string{"%0" + b, "a%" + b + "0"} {
			if hex {
				cut(t, "/"+s+"?"+s, "/"+s, s, true)
				dotted(t, "/"+s+"/..", "/", api.OK)
			} else {
				uncut(t, "/"+s)
				uncut(t, "/?"+s)
				dotted(t, "/"+s+"/..", "", api.ErrForm)
			}
		}
	}
}

// P9.1: Path and Query of every short text of the bytes by which it could go wrong, against all paths and all queries.
func TestEveryShortText(t *testing.T) {
	for _, c := range alphabets {
		paths, queries := allPaths(c.bytes, c.most), allQueries(c.bytes, c.most)
		for _, s := range samples.Texts(samples.Each(c.bytes), c.most) {
			asked(t, "Path", Path, s, paths[s])
			asked(t, "Query", Query, s, queries[s])
		}
	}
}

// P9.1: what stands ahead of the first question mark, what behind it, and whether there is one.
func TestCut(t *testing.T) {
	for _, c := range []struct {
		s, path, query string
		has            bool
	}{
		{"/", "/", "", false},
		{"/?", "/", "", true},
		{"/x", "/x", "", false},
		{"/x?", "/x", "", true},
		{"/x?y", "/x", "y", true},
		{"/??", "/", "?", true},
		{"/a?b?c", "/a", "b?c", true},
		{"/a??b", "/a", "?b", true},
		{"/a?/b/../c", "/a", "/b/../c", true},
		{"/a/./b/../c?x", "/a/./b/../c", "x", true},
		{"//?//", "//", "//", true},
		{"/%3F?%3f", "/%3F", "%3f", true},
		{"/%3F", "/%3F", "", false},
		{"/a;b=c:d@e,f?g=h&i=j+k", "/a;b=c:d@e,f", "g=h&i=j+k", true},
	} {
		cut(t, c.s, c.path, c.query, c.has)
	}
}

// P9.1: what is no path, or has no query behind it.
func TestCutOfWrong(t *testing.T) {
	for _, s := range []string{
		"", "?", "?x", "??", "?/", "?/x", "a", "a?", "a?b", "a/b?c", "*", "*?", ".", "..?x", "%2F", "%2F?x", " /", " /?x", "http://a/?x", "a:80", "\\?x",
		"/ ", "/a b", "/a b?c", "/a?b c", "/a ?b", "/a? b", "/a?b ", "/#", "/a#b", "/a?b#c", "/a#b?c", "/a?#", "/#?",
		"/%", "/%?", "/%4?1", "/%?41", "/?%", "/?%4", "/?%4g", "/%4g?x", "/x?%%41", "/x?y?%", "/%41?%4", "/%4?%41",
		"/\x00", "/\x00?x", "/x?\x00", "/\xff?", "/?\xff", "/\u00e4?x", "/x?\u00e4", "/x\uff1fy", "/x?a[0]", "/[?x", "/x?y\r\n", "/x\r\n?y", "/x?y\n", "/x?\"", "/x?|", "/<?>",
	} {
		uncut(t, s)
	}
}

// P9.1, P9.3: Cut of every short text of the bytes by which it could go wrong, against all paths with all queries; and Join of it is the text.
func TestCutOfEveryShortText(t *testing.T) {
	type parts struct {
		path, query string
		has         bool
	}
	for _, c := range alphabets {
		all := map[string]parts{}
		for path := range allPaths(c.bytes, c.most) {
			all[path] = parts{path: path}
			for query := range allQueries(c.bytes, c.most-len(path+"?")) {
				if s := path + "?" + query; len(s) <= c.most {
					all[s] = parts{path, query, true}
				}
			}
		}
		right := 0
		for _, s := range samples.Texts(samples.Each(c.bytes), c.most) {
			want, is := all[s]
			if !is {
				uncut(t, s)
				continue
			}
			right++
			cut(t, s, want.path, want.query, want.has)
			joined(t, want.path, want.query, want.has, s)
		}
		if right != len(all) {
			t.Errorf("%q: %d texts of %d were looked at", c.bytes, right, len(all))
		}
	}
}

// joined tells whether Join answers what it should.
func joined(t *testing.T, path, query string, has bool, want string) {
	t.Helper()
	if s := Join(path, query, has); s != want {
		t.Errorf("Join of %.80q, %.80q, %v: %.80q, want %.80q", path, query, has, s, want)
	}
}

// P9.1: the path, and, if there is one, a question mark and the query; whatever they are.
func TestJoin(t *testing.T) {
	for _, c := range []struct {
		path, query string
		has         bool
		want        string
	}{
		{"/", "", false, "/"}, {"/", "", true, "/?"}, {"/x", "y", true, "/x?y"}, {"/x", "y", false, "/x"}, {"/a/b", "c=d&e", true, "/a/b?c=d&e"}, {"/x", "?", true, "/x??"},
		{"", "", false, ""}, {"", "", true, "?"}, {"", "x", true, "?x"}, {"", "x", false, ""}, {"a", "b", true, "a?b"}, {"/a?b", "c", true, "/a?b?c"}, {"/a?b", "c", false, "/a?b"}, {"/a?", "", true, "/a??"}, {"/a b", "c#d", true, "/a b?c#d"}, {"%", "%4", true, "%?%4"}, {"\x00\xff", "\r\n", true, "\x00\xff?\r\n"},
	} {
		joined(t, c.path, c.query, c.has, c.want)
	}
}

// P9.2: segments . and .. are left out, the latter with the last one that stayed; all others stay.
func TestDots(t *testing.T) {
	for _, c := range []struct{ s, want string }{
		{"/", "/"}, {"//", "//"}, {"///", "///"}, {"/a", "/a"}, {"/a/", "/a/"}, {"/a/b", "/a/b"}, {"/a//b", "/a//b"}, {"//a", "//a"},
		{"/.", "/"}, {"/./", "/"}, {"/././.", "/"}, {"/./a", "/a"}, {"/a/.", "/a/"}, {"/a/./", "/a/"}, {"/a/./b", "/a/b"}, {"//.", "//"}, {"/.//", "//"}, {"/././/./.", "//"},
		{"/..", "/"}, {"/../", "/"}, {"/../..", "/"}, {"/../../", "/"}, {"/../../a", "/a"}, {"/a/..", "/"}, {"/a/../", "/"}, {"/a/../b", "/b"}, {"/a/../..", "/"}, {"/a/../../b", "/b"}, {"/a/b/..", "/a/"}, {"/a/b/../", "/a/"}, {"/a/b/../c", "/a/c"}, {"/a/b/../..", "/"}, {"/a/b/../../", "/"}, {"/a/b/../../..", "/"}, {"/a/b/../../../c", "/c"}, {"/a/b/c/../..", "/a/"}, {"/a/../b/../c", "/c"},
		{"//..", "/"}, {"//../", "/"}, {"//../a", "/a"}, {"///..", "//"}, {"///../..", "/"}, {"/a//..", "/a/"}, {"/a//../b", "/a/b"}, {"/a//../..", "/"}, {"/a//../../b", "/b"}, {"//a/..//b", "///b"}, {"/..//", "//"}, {"/..//a", "//a"}, {"/a/..//", "//"}, {"/a/..//b", "//b"},
		{"/./..", "/"}, {"/../.", "/"}, {"/a/./..", "/"}, {"/a/../.", "/"}, {"/a/b/./..", "/a/"}, {"/a/b/../.", "/a/"}, {"/a/./../b", "/b"}, {"/a/b/./.././c", "/a/c"},
		{"/...", "/..."}, {"/....", "/...."}, {"/.a", "/.a"}, {"/a.", "/a."}, {"/..a", "/..a"}, {"/a..", "/a.."}, {"/.a/..", "/"}, {"/.../..", "/"}, {"/a./..b/.", "/a./..b/"}, {"/.a./a.a/..a..", "/.a./a.a/..a.."},
		{"/%2e", "/%2e"}, {"/%2E%2e", "/%2E%2e"}, {"/.%2e", "/.%2e"}, {"/a/%2e%2e/b", "/a/%2e%2e/b"}, {"/%2F..", "/%2F.."}, {"/%2e/..", "/"}, {"/a%2F../b", "/a%2F../b"}, {"/a%2Fb/../c", "/c"},
		{"/a:b/../@", "/@"}, {"/;a/.;b/..;c", "/;a/.;b/..;c"}, {"/A/../a", "/a"}, {"/a/./b/../c", "/a/c"},
	} {
		dotted(t, c.s, c.want, api.OK)
	}
}

// P9.2: what is no path has none without dots.
func TestDotsOfWrong(t *testing.T) {
	for _, s := range []string{
		"", ".", "..", "a", "a/", "a/..", "./a", "../a", "../", "./", "*", "%2F", "?", "/?", "/a?", "/a/..?x", "/a?/../b", "/..#", "/a b/..", "/../ ", "/a/../\x00", "/ /..", "/%/..", "/%4/..", "/%4g/..", "/../%", "/../%4", "/%2/../F", "/\xff/..", "/\u00e4/../a", "/[/../]", "\\..", "/\\..", "http://a/..", " /..", "/..\n", "/%../", "/%4../", "/%./",
	} {
		dotted(t, s, "", api.ErrForm)
	}
}

// withoutDots is a path without dots, by the document's words: of its list of segments one is left out after the other.
func withoutDots(path string) string {
	l := strings.Split(path, "/")[1:]
	if last := l[len(l)-1]; last == "." || last == ".." {
		l = append(l, "")
	}
	for {
		i := slices.IndexFunc(l, func(s string) bool { return s == "." || s == ".." })
		if i < 0 {
			return "/" + strings.Join(l, "/")
		}
		from := i
		if l[i] == ".." && i > 0 {
			from--
		}
		l = slices.Delete(l, from, i+1)
	}
}

// removeDots is what RFC 3986 tells of paths in its section 5.2.4, step by step.
func removeDots(in string) string {
	out := ""
	for in != "" {
		switch {
		case strings.HasPrefix(in, "/./"):
			in = in[2:]
		case in == "/.":
			in = "/"
		case strings.HasPrefix(in, "/../") || in == "/..":
			in = "/" + strings.TrimPrefix(in[3:], "/")
			out = out[:max(strings.LastIndex(out, "/"), 0)]
		default:
			end := len(in)
			if n := strings.Index(in[1:], "/"); n >= 0 {
				end = n + 1
			}
			out, in = out+in[:end], in[end:]
		}
	}
	return out
}

// P9.2, P9.3: Dots of every short path, and of every short row of segments, against what the document's and the RFC's words make of it.
func TestDotsOfEveryShortPath(t *testing.T) {
	for _, c := range []struct {
		units []string
		most  int
	}{{samples.Each("/.a"), 10}, {samples.Each("/."), 15}, {[]string{"/", "/.", "/..", "/ab"}, 17}, {[]string{"/", "/..", "/a", "/%2e", "/..."}, 14}} {
		for _, s := range samples.Texts(c.units, c.most) {
			if !strings.HasPrefix(s, "/") {
				dotted(t, s, "", api.ErrForm)
				continue
			}
			want := withoutDots(s)
			dotted(t, s, want, api.OK)
			dotted(t, want, want, api.OK)
			if rfc := removeDots(s); rfc != want {
				t.Errorf("%q: %q by the RFC, %q by the document", s, rfc, want)
			}
			if segments := strings.Split(want, "/")[1:]; slices.Contains(segments, ".") || slices.Contains(segments, "..") || !Path(want) {
				t.Errorf("%q: Dots has dots: %q", s, want)
			}
		}
	}
}

// P9.3: Join of Cut is the text, whatever may be cut.
func TestJoinOfCut(t *testing.T) {
	for _, s := range samples.Texts([]string{"/", "?", "a", "..", "%3F", "%", "#"}, 6) {
		path, query, has, e := Cut(s)
		if e != api.OK {
			continue
		}
		joined(t, path, query, has, s)
		if !Path(path) || !Query(query) || strings.Contains(path, "?") || !has && query != "" {
			t.Errorf("Cut of %q: %q, %q, %v", s, path, query, has)
		}
	}
}

// P1: every call ends soon of long texts, whatever they are.
func TestLongTexts(t *testing.T) {
	for _, c := range []struct {
		unit            string
		isPath, isQuery bool
		dots            string // of the unit, behind a slash, as often as it goes
	}{
		{"a", true, true, ""}, {".", true, true, ""}, {":", true, true, ""}, {"%41", true, true, ""}, {"/", true, true, ""}, {"a/", true, true, ""}, {"%2e/", true, true, ""}, {".../", true, true, ""},
		{"./", true, true, "/"}, {"../", true, true, "/"}, {"a/../", true, true, "/"}, {"a/./../", true, true, "/"}, {"/../", true, true, "/"},
		{"?", false, true, ""}, {"/?", false, true, ""}, {"a?", false, true, ""},
		{"%", false, false, ""}, {"%4", false, false, ""}, {" ", false, false, ""}, {"#", false, false, ""}, {"\x00", false, false, ""}, {"\xff", false, false, ""}, {"/ ", false, false, ""}, {"../%", false, false, ""},
	} {
		s := strings.Repeat(c.unit, api.MaxText/len(c.unit))
		asked(t, "Path", Path, "/"+s, c.isPath)
		asked(t, "Query", Query, s, c.isQuery)
		switch {
		case c.isPath:
			cut(t, "/"+s, "/"+s, "", false)
			cut(t, "/"+s+"?"+s, "/"+s, s, true)
			want := "/" + s
			if c.dots != "" {
				want = c.dots
			}
			dotted(t, "/"+s, want, api.OK)
		case c.isQuery:
			cut(t, "/?"+s, "/", s, true)
			dotted(t, "/"+s, "", api.ErrForm)
		default:
			uncut(t, "/"+s)
			uncut(t, "/?"+s)
			dotted(t, "/"+s, "", api.ErrForm)
		}
		joined(t, s, s, true, s+"?"+s)
		joined(t, s, s, false, s)
	}
}

// P1, P9.2: many segments that stay, and as many that leave them out again.
func TestDotsThereAndBack(t *testing.T) {
	for _, n := range []int{1, 2, 1000, api.MaxText / 8} {
		there, back := strings.Repeat("/abcde", n), strings.Repeat("/..", n)
		dotted(t, "/x"+there+back, "/x/", api.OK)
		dotted(t, "/x"+there+back+"/y", "/x/y", api.OK)
		dotted(t, there+back+"/..", "/", api.OK)
		dotted(t, "/x"+back+there, there, api.OK)
	}
}

// The chapter's examples.
func TestExamples(t *testing.T) {
	cut(t, "/a/./b/../c?x", "/a/./b/../c", "x", true)
	dotted(t, "/a/./b/../c", "/a/c", api.OK)
	dotted(t, "/a/..", "/", api.OK)
}
