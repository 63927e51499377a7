package target

import (
	"fmt"
	"math"
	"net/netip"
	"regexp"
	"strconv"
	"strings"
	"testing"

	"doorstep/api"
	"doorstep/samples"
)

// others are methods of which the document tells nothing apart: those that are not quite the two that it names, and what is no token, among them.
var others = []string{"GET", "HEAD", "POST", "PUT", "DELETE", "TRACE", "PATCH", "X", "get", "connect", "Connect", "CONNECt", "options", "Options", "oPTIONS", "CONNECT ", " CONNECT", "CONNECTX", "CONNEC", "OPTIONS ", " OPTIONS", "OPTIONSX", "OPTION", "CONNECT\x00", "OPTIONS\r\n", "CONNECT,OPTIONS", "*", "", " ", "\x00", "\xff", "/", "http://a"}

// methods are all of them.
var methods = append([]string{"CONNECT", "OPTIONS"}, others...)

// may: may a method have targets of a form?
func may(method string, k api.TargetKind) bool {
	switch method {
	case "CONNECT":
		return k == api.Authority
	case "OPTIONS":
		return k == api.Origin || k == api.Absolute || k == api.Asterisk
	}
	return k == api.Origin || k == api.Absolute
}

// named, four and six are hosts of their kinds.
func named(name string, port int) api.Host {
	return api.Host{Kind: api.HostName, Name: name, Port: port}
}
func four(name string, port int) api.Host { return api.Host{Kind: api.HostV4, Name: name, Port: port} }
func six(name string, port int) api.Host  { return api.Host{Kind: api.HostV6, Name: name, Port: port} }

// origin, absoluteOf and authorityOf are targets of their forms, asked is one with a query besides.
func origin(path string) api.Target { return api.Target{Kind: api.Origin, Path: path} }
func absoluteOf(scheme string, h api.Host, path string) api.Target {
	return api.Target{Kind: api.Absolute, Scheme: scheme, Host: h, Path: path}
}
func authorityOf(h api.Host) api.Target { return api.Target{Kind: api.Authority, Host: h} }
func asked(t api.Target, query string) api.Target {
	t.Query, t.HasQuery = query, true
	return t
}

// star is the target of the form asterisk.
var star = api.Target{Kind: api.Asterisk}

// show is a target, to be told.
func show(t api.Target) string {
	return fmt.Sprintf("{%d %.80q {%d %.80q %d} %.80q %.80q %v}", t.Kind, t.Scheme, t.Host.Kind, t.Host.Name, t.Host.Port, t.Path, t.Query, t.HasQuery)
}

// parsed tells whether Parse of a text by a method answers a target.
func parsed(t *testing.T, method, s string, want api.Target) {
	t.Helper()
	if x, e := Parse(method, s); x != want || e != api.OK {
		t.Errorf("Parse by %.80q of %.80q: %s, %d, want %s", method, s, show(x), e, show(want))
	}
}

// refused tells whether Parse refuses a text by a method.
func refused(t *testing.T, method, s string) {
	t.Helper()
	if x, e := Parse(method, s); x != (api.Target{}) || e != api.ErrLine {
		t.Errorf("Parse by %.80q of %.80q: %s, %d, want ErrLine", method, s, show(x), e)
	}
}

// parsedByAll tells whether Parse of a text answers a target by each method that may have it, and refuses it by all others.
func parsedByAll(t *testing.T, s string, want api.Target) {
	t.Helper()
	for _, method := range methods {
		if may(method, want.Kind) {
			parsed(t, method, s, want)
		} else {
			refused(t, method, s)
		}
	}
}

// refusedByAll tells whether Parse refuses a text by each method.
func refusedByAll(t *testing.T, s string) {
	t.Helper()
	for _, method := range methods {
		refused(t, method, s)
	}
}

// written tells whether Text of a target answers a text.
func written(t *testing.T, x api.Target, want string) {
	t.Helper()
	if s, e := Text(x); s != want || e != api.OK {
		t.Errorf("Text of %s: %.80q, %d, want %.80q", show(x), s, e, want)
	}
}

// unwritten tells whether Text refuses a target.
func unwritten(t *testing.T, x api.Target) {
	t.Helper()
	if s, e := Text(x); s != "" || e != api.ErrLine {
		t.Errorf("Text of %s: %.80q, %d, want ErrLine", show(x), s, e)
	}
}

// sent tells whether Origin of a target answers what it should.
func sent(t *testing.T, x api.Target, want string) {
	t.Helper()
	if s := Origin(x); s != want {
		t.Errorf("Origin of %s: %.80q, want %.80q", show(x), s, want)
	}
}

// sample is a text, its target, what Text tells of that, and what Origin tells of it.
type sample struct {
	s      string
	target api.Target
	text   string
	origin string
}

// targets are texts of each form, with all that is told of them.
func targets() []sample {
	a := named("a", -1)
	return []sample{
		{"/", origin("/"), "/", "/"},
		{"//", origin("//"), "//", "//"},
		{"/a", origin("/a"), "/a", "/a"},
		{"/a/./b/../c", origin("/a/./b/../c"), "/a/./b/../c", "/a/./b/../c"},
		{"/%41%2f:@!$&'()*+,;=-._~", origin("/%41%2f:@!$&'()*+,;=-._~"), "/%41%2f:@!$&'()*+,;=-._~", "/%41%2f:@!$&'()*+,;=-._~"},
		{"/?", asked(origin("/"), ""), "/?", "/?"},
		{"/??", asked(origin("/"), "?"), "/??", "/??"},
		{"/a?b", asked(origin("/a"), "b"), "/a?b", "/a?b"},
		{"/a?b/c?d=%3F&e", asked(origin("/a"), "b/c?d=%3F&e"), "/a?b/c?d=%3F&e", "/a?b/c?d=%3F&e"},
		{"/http://a", origin("/http://a"), "/http://a", "/http://a"},
		{"/a:80", origin("/a:80"), "/a:80", "/a:80"},
		{"/*", origin("/*"), "/*", "/*"},
		{"//a/b", origin("//a/b"), "//a/b", "//a/b"},
		{"/u?http://a/?b", asked(origin("/u"), "http://a/?b"), "/u?http://a/?b", "/u?http://a/?b"},

		{"http://a", absoluteOf("http", a, ""), "http://a", "/"},
		{"https://a", absoluteOf("https", a, ""), "https://a", "/"},
		{"HTTP://a", absoluteOf("http", a, ""), "http://a", "/"},
		{"hTtPs://a", absoluteOf("https", a, ""), "https://a", "/"},
		{"http://a/", absoluteOf("http", a, "/"), "http://a/", "/"},
		{"http://a//", absoluteOf("http", a, "//"), "http://a//", "//"},
		{"http://a?", asked(absoluteOf("http", a, ""), ""), "http://a?", "/?"},
		{"http://a??", asked(absoluteOf("http", a, ""), "?"), "http://a??", "/??"},
		{"http://a?x", asked(absoluteOf("http", a, ""), "x"), "http://a?x", "/?x"},
		{"http://a?/x", asked(absoluteOf("http", a, ""), "/x"), "http://a?/x", "/?/x"},
		{"http://a/?", asked(absoluteOf("http", a, "/"), ""), "http://a/?", "/?"},
		{"http://a/p?x=y?z", asked(absoluteOf("http", a, "/p"), "x=y?z"), "http://a/p?x=y?z", "/p?x=y?z"},
		{"http://a/../p", absoluteOf("http", a, "/../p"), "http://a/../p", "/../p"},
		{"http://a/http://b", absoluteOf("http", a, "/http://b"), "http://a/http://b", "/http://b"},
		{"http://a?http://b/", asked(absoluteOf("http", a, ""), "http://b/"), "http://a?http://b/", "/?http://b/"},
		{"HTTP://A:80/P?Q", asked(absoluteOf("http", named("A", 80), "/P"), "Q"), "http://A:80/P?Q", "/P?Q"},
		{"http://a:0", absoluteOf("http", named("a", 0), ""), "http://a:0", "/"},
		{"http://a:65535/", absoluteOf("http", named("a", 65535), "/"), "http://a:65535/", "/"},
		{"http://A%4a.de!$&'()*+,;=-._~/x", absoluteOf("http", named("A%4a.de!$&'()*+,;=-._~", -1), "/x"), "http://A%4a.de!$&'()*+,;=-._~/x", "/x"},
		{"http://1.2.3.4", absoluteOf("http", four("1.2.3.4", -1), ""), "http://1.2.3.4", "/"},
		{"http://1.2.3.4:8080?x", asked(absoluteOf("http", four("1.2.3.4", 8080), ""), "x"), "http://1.2.3.4:8080?x", "/?x"},
		{"http://1.2.3.400/", absoluteOf("http", named("1.2.3.400", -1), "/"), "http://1.2.3.400/", "/"},
		{"https://[::1]/x", absoluteOf("https", six("::1", -1), "/x"), "https://[::1]/x", "/x"},
		{"HTTPS://[FF::1.2.3.4]:443", absoluteOf("https", six("FF::1.2.3.4", 443), ""), "https://[FF::1.2.3.4]:443", "/"},

		{"a:1", authorityOf(named("a", 1)), "a:1", ""},
		{"A.example:443", authorityOf(named("A.example", 443)), "A.example:443", ""},
		{"a:0", authorityOf(named("a", 0)), "a:0", ""},
		{"a:65535", authorityOf(named("a", 65535)), "a:65535", ""},
		{"http:80", authorityOf(named("http", 80)), "http:80", ""},
		{"*:80", authorityOf(named("*", 80)), "*:80", ""},
		{"%41:80", authorityOf(named("%41", 80)), "%41:80", ""},
		{"1.2.3.4:80", authorityOf(four("1.2.3.4", 80)), "1.2.3.4:80", ""},
		{"[::1]:80", authorityOf(six("::1", 80)), "[::1]:80", ""},

		{"*", star, "*", "*"},
	}
}

// P10.1: a target of each form, by each method: of a form that it may have, it is told; of all others refused.
func TestParse(t *testing.T) {
	for _, c := range targets() {
		parsedByAll(t, c.s, c.target)
	}
}

// P10.1: what is a target of no form.
func TestParseOfWrong(t *testing.T) {
	for _, s := range []string{
		"", " ", "\x00", "\xff", "\r\n", "a", "a/b", ".", "..", "?", "?x", "#", "%2F", "\\", "\\a", ":", "::", "@", "-",
		" /", "/ ", "/a b", "/a?b c", "/\t", "/a\r\n", "/\n", "/#", "/a#b", "/a?b#c", "/%", "/%4", "/%4g", "/?%", "/?%4", "/[", "/?a[0]", `/"`, "/\x00", "/\x7f", "/\x80", "/\xff", "/\u00e4", "/?\u00e4", "\uff0f", "\u2215a",
		"**", "* ", " *", "*/", "/*\n", "*?", "*?x", "*#", "%2A", "\uff0a", "\u2217",
		"http", "http:", "http:/", "http://", "http:///", "http:///x", "http://?", "http://?x", "http:// ", "http://#", "https://", "https:///", "http:a", "http:/a", "http:/a/b", "http:///a", "http:\\\\a", "http//a", "http:://a", "http//:a", "://a", ":/a", "http ://a", "http: //a", "http:/ /a", "http:// a", " http://a", "http://a ", "\thttp://a", "http://a\r\n",
		"ftp://a/", "ws://a/", "wss://a", "file:///a", "htp://a", "httpss://a", "httpx://a", "xhttp://a", "http.://a", "http+x://a", "shttp://a", "http\x00://a", "http\u017f://a", "http\uff33://a", "\u210dttp://a", "h ttp://a", "httphttps://a", "http,https://a", "h://a", "mailto:a", "urn:a:b",
		"http://a:", "http://a:/", "http://a:?", "http://:80", "http://:80/", "http://:", "http://a:x", "http://a:80x", "http://a:080/", "http://a:65536", "http://a:99999/", "http://a:100000", "http://a:-1", "http://a:+1", "http://a: 80", "http://a:80 /", "http://a:80:80", "http://a:8 0", "http://a:4294967376",
		"http://u@a", "http://u:p@a/", "http://@a", "http://a@", "http://a,b c", "http://a b/", "http://a\tb", "http://a#b", "http://a#", "http://a/#", "http://a?#", "http://a\\b", "http://%", "http://%/", "http://%4/1", "http://%4?1", "http://a%", "http://a%4g", "http://\u00e4", "http://\xff/", "http://a\x00", "http://a\n/",
		"http://[", "http://]", "http://[]", "http://[]/", "http://[:::]", "http://[::1", "http://::1", "http://::1]", "http://::1/", "http://[::1]x", "http://[::1]x/", "http://[::1]:", "http://[::1]:/", "http://[::1]:x", "http://[::1]80", "http://[a]", "http://[1.2.3.4]", "http://[::1%251]", "http://[::/1]", "http://[::?1]", "http://[::1/]", "http://[v1.a]", "http://x[::1]",
		"http://a/ ", "http://a/b c", "http://a/?b c", "http://a?b c", "http://a/%", "http://a/%4", "http://a/%4g", "http://a?%", "http://a?%4g", "http://a/?%", "http://a/[", "http://a?[", "http://a/\x00", "http://a?\x7f", "http://a/\xff", "http://a?\u00e4", "http://a/b#c", "http://a?b#c", "http://a/|", "http://a?^",
		"a:", ":80", ":", "a:x", "a:80x", "a:080", "a:00", "a:65536", "a:99999", "a:100000", "a:-1", "a:+1", "a: 80", "a :80", " a:80", "a:80 ", "a:80\r\n", "a:80:80", "a::80", "a:80/", "a:80?", "a:80?x", "a:80#", "u@a:80", "u:p@a:80", "a b:80", "a%:80", "\u00e4:80", "\x00:80",
		"[::1]", "[::1]:", "[::1]:x", "[::1]:080", "[::1]80", "::1:80", "::1", "[]:80", "[:::]:80", "[a]:80", "[::1:80", "1.2.3.4", "1.2.3.4:", "1.2.3.4:65536", "a.example", "www.a.de", "http:/80", "http//:80",
	} {
		refusedByAll(t, s)
	}
}

// Regular expressions that say the document's words once more.
const (
	nameByte  = `(?:[A-Za-z0-9\-._~!$&'()*+,;=]|%[0-9A-Fa-f]{2})`
	pathByte  = `(?:[A-Za-z0-9\-._~!$&'()*+,;=:@]|%[0-9A-Fa-f]{2})`
	number    = `(?:25[0-5]|2[0-4][0-9]|1[0-9][0-9]|[1-9][0-9]|[0-9])`
	hostText  = `(\[[0-9A-Fa-f:.]*\]|` + nameByte + `+)(?::(0|[1-9][0-9]{0,4}))?`
	queryText = `(\?(?:` + pathByte + `|[/?])*)`
)

var (
	fourText      = regexp.MustCompile(`^` + number + `\.` + number + `\.` + number + `\.` + number + `$`)
	originText    = regexp.MustCompile(`^((?:/` + pathByte + `*)+)` + queryText + `?$`)
	absoluteText  = regexp.MustCompile(`^([Hh][Tt][Tt][Pp][Ss]?)://` + hostText + `((?:/` + pathByte + `*)*)` + queryText + `?$`)
	authorityText = regexp.MustCompile(`^` + hostText + `$`)
)

// hostByWords is the host that a text and a port's text are.
func hostByWords(name, port string) (api.Host, bool) {
	h := named(name, -1)
	if inner, ok := strings.CutPrefix(name, "["); ok {
		inner = strings.TrimSuffix(inner, "]")
		if a, err := netip.ParseAddr(inner); err != nil || !a.Is6() {
			return api.Host{}, false
		}
		h.Kind, h.Name = api.HostV6, inner
	} else if fourText.MatchString(name) {
		h.Kind = api.HostV4
	}
	if port != "" {
		h.Port, _ = strconv.Atoi(port)
	}
	return h, h.Port < 65536
}

// byWords is the target that a text is, by the document's words, of whichever form; of no text there are two.
func byWords(s string) (api.Target, bool) {
	x, query, ok := api.Target{}, "", true
	if s == "*" {
		return star, true
	} else if m := originText.FindStringSubmatch(s); m != nil {
		x, query = origin(m[1]), m[2]
	} else if m := absoluteText.FindStringSubmatch(s); m != nil {
		x, query = absoluteOf(strings.ToLower(m[1]), api.Host{}, m[4]), m[5]
		x.Host, ok = hostByWords(m[2], m[3])
	} else if m := authorityText.FindStringSubmatch(s); m != nil && m[2] != "" {
		x.Kind = api.Authority
		x.Host, ok = hostByWords(m[1], m[2])
	} else {
		return api.Target{}, false
	}
	if query != "" {
		x = asked(x, query[1:])
	}
	return x, ok
}

// heldAgainstWords tells whether Parse of a text answers by three methods what the document's words say, and, of a target, whether Text and Parse of that tell it again. It answers the target's form.
func heldAgainstWords(t *testing.T, s string) api.TargetKind {
	t.Helper()
	want, is := byWords(s)
	for _, method := range []string{"CONNECT", "OPTIONS", "GET"} {
		if !is || !may(method, want.Kind) {
			refused(t, method, s)
			continue
		}
		parsed(t, method, s, want)
		text, e := Text(want)
		if e != api.OK || text != want.Scheme+s[len(want.Scheme):] {
			t.Errorf("Text of Parse of %.80q: %.80q, %d", s, text, e)
		}
		parsed(t, method, text, want)
	}
	if !is {
		return 0
	}
	return want.Kind
}

// P10.1, P10.3: Parse of the samples is what the words' own reader tells of them, so that this one is to be leant on.
func TestWords(t *testing.T) {
	for _, c := range targets() {
		if x, is := byWords(c.s); !is || x != c.target {
			t.Errorf("by the words %q is %s, %v", c.s, show(x), is)
		}
		heldAgainstWords(t, c.s)
	}
}

// P10.1, P10.3: Parse of every short text, behind nothing and behind what targets begin with, against the document's words.
func TestParseOfEveryShortText(t *testing.T) {
	for _, c := range []struct {
		ahead []string
		bytes string
		most  int
		kinds []api.TargetKind // of which there are some
	}{
		{[]string{""}, "/?a:*1", 6, []api.TargetKind{api.Origin, api.Authority, api.Asterisk}},
		{[]string{""}, "/?%0#", 6, []api.TargetKind{api.Origin}},
		{[]string{""}, "%0: ", 7, []api.TargetKind{api.Authority}},
		{[]string{""}, "[]:1/", 7, []api.TargetKind{api.Origin, api.Authority}},
		{[]string{"http://", "HTTPS://"}, "/?a:1", 6, []api.TargetKind{api.Absolute}},
		{[]string{"hTtp://", "https://a", "http://a/", "http://a?"}, "/?%0#", 5, []api.TargetKind{api.Absolute}},
		{[]string{"http://"}, "[]:1/?", 6, []api.TargetKind{api.Absolute}},
		{[]string{"http://a:", "a:"}, "065:/", 6, []api.TargetKind{api.Absolute, api.Authority}},
		{[]string{"http", "HTTP"}, "sS:/a", 6, []api.TargetKind{api.Absolute}},
		{[]string{"http:", "//", "http:/", "ftp://", "://", "http: //", " "}, "/?a:", 5, nil},
	} {
		found := map[api.TargetKind]int{}
		for _, ahead := range c.ahead {
			for _, s := range samples.Texts(samples.Each(c.bytes), c.most) {
				found[heldAgainstWords(t, ahead+s)]++
			}
		}
		for _, k := range c.kinds {
			if found[k] == 0 {
				t.Errorf("%q behind %q: no target of form %d", c.bytes, c.ahead, k)
			}
		}
	}
}

// P10.1: each of the 256 bytes at each place of targets, in the stead of the one there and ahead of it, and each of these left out, against the document's words.
func TestEachByteAtEachPlace(t *testing.T) {
	for _, s := range []string{"/a?b%41", "http://a:80/p?q", "HTTPs://[::1]:0?", "http://1.2.3.4/", "a%4f:65535", "[1::]:8", "*"} {
		for _, nearby := range samples.Nearby(s) {
			heldAgainstWords(t, nearby)
		}
	}
}

// P10.1: http and https in any case, each of their letters of either size; no other scheme of as many letters of either size.
func TestEachScheme(t *testing.T) {
	right := 0
	for _, scheme := range samples.Texts(samples.Each("hHtTpPsS"), 5) {
		s := scheme + "://a/"
		if x, is := byWords(s); is {
			right++
			parsed(t, "GET", s, x)
		} else {
			refused(t, "GET", s)
		}
	}
	if right != 16+32 {
		t.Errorf("%d schemes were taken", right)
	}
}

// P10.1: a method by one byte less, more or other than the two that are named is one of all others.
func TestMethodsNearby(t *testing.T) {
	for _, method := range []string{"CONNECT", "OPTIONS"} {
		nearby := []string{}
		for i := range len(method) {
			nearby = append(nearby, method[:i], method[i+1:], method[:i]+method[i+1:], method[:i]+strings.ToLower(method[i:]))
			for n := range 256 {
				b := string([]byte{byte(n)})
				nearby = append(nearby, method[:i]+b+method[i:], method[:i]+b+method[i+1:], method+b)
			}
		}
		for _, m := range nearby {
			if m == method {
				continue
			}
			parsed(t, m, "/a", origin("/a"))
			parsed(t, m, "http://a", absoluteOf("http", named("a", -1), ""))
			refused(t, m, "*")
			refused(t, m, "a:80")
		}
	}
}

// P10.2: the text of each target, its scheme in small letters.
func TestText(t *testing.T) {
	for _, c := range targets() {
		written(t, c.target, c.text)
	}
}

// P10.2: targets of which Parse tells by no method of any text.
func TestTextOfWrong(t *testing.T) {
	a, port := named("a", -1), named("a", 80)
	for _, x := range []api.Target{
		{}, {Path: "/"}, {Kind: 5, Path: "/"}, {Kind: -1, Path: "/"}, {Kind: math.MaxInt, Path: "/"}, {Kind: math.MinInt}, {Kind: 5, Scheme: "http", Host: a}, {Kind: 0, Host: port}, {Kind: 5},

		origin(""), origin("a"), origin("*"), origin("?"), origin("/?"), origin("/?a"), origin("/ "), origin("/#"), origin("/%"), origin("/%4"), origin("/\x00"), origin("/\xff"), origin("http://a/"), origin("a:80"),
		asked(origin(""), ""), asked(origin(""), "x"), asked(origin("a"), "x"), asked(origin("/?"), ""), asked(origin("/?a"), "b"), asked(origin("/"), " "), asked(origin("/"), "#"), asked(origin("/"), "%"), asked(origin("/%"), "41"),
		{Kind: api.Origin, Path: "/", Query: "x"}, {Kind: api.Origin, Path: "/", Scheme: "http"}, {Kind: api.Origin, Path: "/", Host: a}, {Kind: api.Origin, Path: "/", Host: api.Host{Port: -1}}, {Kind: api.Origin, Path: "/", Scheme: "http", Host: a}, {Kind: api.Origin, Path: "/", Host: api.Host{Name: " "}},

		absoluteOf("", a, ""), absoluteOf("HTTP", a, ""), absoluteOf("Https", a, "/"), absoluteOf("ftp", a, "/"), absoluteOf("http:", a, ""), absoluteOf("http://", a, ""), absoluteOf("http://a", a, ""), absoluteOf("http://a/", a, ""), absoluteOf(" http", a, ""), absoluteOf("http\u017f", a, ""), absoluteOf("/", a, ""), absoluteOf("*", a, ""),
		absoluteOf("http", api.Host{}, ""), absoluteOf("http", api.Host{}, "a"), absoluteOf("http", api.Host{}, "a/"), absoluteOf("http", api.Host{Port: -1}, "/"), absoluteOf("http", api.Host{Name: "a", Port: -1}, "/"), absoluteOf("http", api.Host{Kind: 4, Name: "a", Port: -1}, "/"), absoluteOf("http", named("", -1), "/"), absoluteOf("http", named("", -1), "a/"), absoluteOf("http", named("", 80), "/"),
		absoluteOf("http", named("a/b", -1), ""), absoluteOf("http", named("a?b", -1), ""), absoluteOf("http", named("a:80", -1), ""), absoluteOf("http", named("a:80", 80), ""), absoluteOf("http", named("u@a", -1), ""), absoluteOf("http", named("a b", -1), ""), absoluteOf("http", named("1.2.3.4", -1), "/"), absoluteOf("http", named("[::1]", -1), "/"), absoluteOf("http", named("a%", -1), "/"),
		absoluteOf("http", four("a", -1), "/"), absoluteOf("http", four("1.2.3.400", -1), "/"), absoluteOf("http", six("[::1]", -1), "/"), absoluteOf("http", six("a", -1), "/"), absoluteOf("http", six("::1]/[", -1), ""), absoluteOf("http", named("a", -2), "/"), absoluteOf("http", named("a", 65536), "/"), absoluteOf("http", named("a", math.MinInt), "/"), absoluteOf("http", named("a", math.MaxInt), "/"),
		absoluteOf("http", a, "b"), absoluteOf("http", a, ".b"), absoluteOf("http", a, ":80"), absoluteOf("http", a, ":80/"), absoluteOf("http", a, "b/c"), absoluteOf("http", a, "?"), absoluteOf("http", a, "?x"), absoluteOf("http", a, "/?"), absoluteOf("http", a, "/?x"), absoluteOf("http", a, "/ "), absoluteOf("http", a, "/#"), absoluteOf("http", a, "#"), absoluteOf("http", a, " "), absoluteOf("http", a, "%41"), absoluteOf("http", port, "0"), absoluteOf("http", port, "1/"),
		asked(absoluteOf("http", a, "b"), "x"), asked(absoluteOf("http", a, "?"), "x"), asked(absoluteOf("http", a, "?x"), ""), asked(absoluteOf("http", a, "/?x"), "y"), asked(absoluteOf("http", a, ""), " "), asked(absoluteOf("http", a, ""), "#"), asked(absoluteOf("http", a, "/"), "%4"), asked(absoluteOf("HTTP", a, "/"), "x"),
		{Kind: api.Absolute, Scheme: "http", Host: a, Query: "x"}, {Kind: api.Absolute, Scheme: "http", Host: a, Path: "/", Query: "x"},

		authorityOf(api.Host{}), authorityOf(a), authorityOf(four("1.2.3.4", -1)), authorityOf(six("::1", -1)), authorityOf(named("", 80)), authorityOf(named("a:80", 80)), authorityOf(named("a:80", -1)), authorityOf(named("u@a", 80)), authorityOf(named("a/", 80)), authorityOf(named("a", -2)), authorityOf(named("a", 65536)), authorityOf(named("1.2.3.4", 80)), authorityOf(named("::1", 80)), authorityOf(six("[::1]", 80)), authorityOf(four("a", 80)), authorityOf(api.Host{Name: "a", Port: 80}), authorityOf(api.Host{Kind: 4, Name: "a", Port: 80}),
		{Kind: api.Authority, Host: port, Scheme: "http"}, {Kind: api.Authority, Host: port, Path: "/"}, {Kind: api.Authority, Host: port, Query: "x"}, asked(authorityOf(port), ""), asked(authorityOf(port), "x"), {Kind: api.Authority, Path: "a:80"}, {Kind: api.Authority, Scheme: "a:80"},

		{Kind: api.Asterisk, Path: "*"}, {Kind: api.Asterisk, Path: "/"}, {Kind: api.Asterisk, Scheme: "http"}, {Kind: api.Asterisk, Host: a}, {Kind: api.Asterisk, Host: port}, {Kind: api.Asterisk, Host: api.Host{Port: -1}}, {Kind: api.Asterisk, Query: "x"}, asked(star, ""), asked(star, "x"),
	} {
		unwritten(t, x)
	}
}

// nearTargets goes over every row of a form, a scheme, a host, a path and a query, of those that are near targets.
func nearTargets(tell func(x api.Target)) {
	hosts := []api.Host{
		{}, {Port: -1}, {Name: "a", Port: -1}, named("", -1), named("a", -1), named("a", 80), named("a", -2), named("a:8", -1), named("1.2.3.4", 80),
		four("1.2.3.4", -1), four("1.2.3.4", 0), four("a", 80), six("::1", -1), six("::1", 65535), six("::1", 65536), six("[::1]", 1),
	}
	for kind := api.TargetKind(-1); kind <= 6; kind++ {
		for _, scheme := range []string{"", "http", "https", "HTTP", "ftp", "https://a", "/"} {
			for _, h := range hosts {
				for _, path := range []string{"", "/", "//", "/a/b", "a", "a/b", "*", "?", "/?", "/?x", ":8", "/%", "/%4f", "a:80", "http://a/", " "} {
					for _, query := range []string{"", "x", "/?", "%", "%41", "#"} {
						for _, has := range []bool{false, true} {
							tell(api.Target{Kind: kind, Scheme: scheme, Host: h, Path: path, Query: query, HasQuery: has})
						}
					}
				}
			}
		}
	}
}

// toldBy is the text by which a target may be told of, if it is one: the document's words, the other way round.
func toldBy(x api.Target) (string, bool) {
	host := x.Host.Name
	if x.Host.Kind == api.HostV6 {
		host = "[" + host + "]"
	}
	if x.Host.Port >= 0 {
		host += ":" + strconv.Itoa(x.Host.Port)
	}
	rest := x.Path
	if x.HasQuery {
		rest += "?" + x.Query
	}
	s := ""
	switch x.Kind {
	case api.Origin:
		s = rest
	case api.Absolute:
		s = x.Scheme + "://" + host + rest
	case api.Authority:
		s = host
	case api.Asterisk:
		s = "*"
	}
	back, is := byWords(s)
	return s, is && back == x
}

// P10.2, P10.3: Text of all that is near a target is its text, or refused; and Parse of it the target.
func TestTextOfEveryNearTarget(t *testing.T) {
	found := map[api.TargetKind]int{}
	nearTargets(func(x api.Target) {
		s, is := toldBy(x)
		if !is {
			unwritten(t, x)
			return
		}
		found[x.Kind]++
		written(t, x, s)
		for _, method := range []string{"CONNECT", "OPTIONS", "GET"} {
			if may(method, x.Kind) {
				parsed(t, method, s, x)
			}
		}
	})
	for _, k := range []api.TargetKind{api.Origin, api.Absolute, api.Authority, api.Asterisk} {
		if found[k] == 0 {
			t.Errorf("no target of form %d", k)
		}
	}
	if len(found) != 4 {
		t.Errorf("forms of targets: %v", found)
	}
}

// P10.2: what is sent on of each target.
func TestOrigin(t *testing.T) {
	for _, c := range targets() {
		sent(t, c.target, c.origin)
	}
}

// P10.2: what is sent on of all that is near a target, whatever stands in it: of two forms nothing else counts, of all others the path and the query alone.
func TestOriginOfEveryNearTarget(t *testing.T) {
	nearTargets(func(x api.Target) {
		want := x.Path
		if want == "" {
			want = "/"
		}
		if x.HasQuery {
			want += "?" + x.Query
		}
		switch x.Kind {
		case api.Asterisk:
			want = "*"
		case api.Authority:
			want = ""
		}
		sent(t, x, want)
	})
}

// What is sent on of an origin or an absolute target, or of an asterisk, is a target itself, and of that the same is sent on.
func TestOriginOfOrigin(t *testing.T) {
	for _, c := range targets() {
		if c.target.Kind == api.Authority {
			continue
		}
		x, e := Parse("OPTIONS", c.origin)
		if e != api.OK || x.Kind == api.Absolute {
			t.Errorf("%q: %s, %d", c.origin, show(x), e)
		}
		sent(t, x, c.origin)
	}
}

// long is a unit as often as it goes into a text.
func long(unit string) string { return strings.Repeat(unit, api.MaxText/len(unit)) }

// P1: every call ends soon of long targets.
func TestLongTargets(t *testing.T) {
	told := func(is bool, s string, want api.Target) {
		t.Helper()
		if !is {
			return
		}
		method, other := "OPTIONS", "CONNECT"
		if want.Kind == api.Authority {
			method, other = other, method
		}
		parsed(t, method, s, want)
		refused(t, other, s)
		written(t, want, s)
	}
	for _, c := range []struct {
		unit           string
		isName, isPath bool // as often as it goes; a query each of them is
	}{
		{"a", true, true}, {"%41", true, true}, {"*", true, true}, {"1.", true, true},
		{":", false, true}, {"a:80", false, true}, {"/", false, true}, {"http://", false, true}, {"/..", false, true},
		{"?", false, false}, {"/?", false, false}, {"http://a?", false, false},
	} {
		s := long(c.unit)
		told(c.isPath, "/"+s, origin("/"+s))
		told(true, "/?"+s, asked(origin("/"), s))
		told(c.isName, "http://"+s, absoluteOf("http", named(s, -1), ""))
		told(c.isName, "http://"+s+":80?", asked(absoluteOf("http", named(s, 80), ""), ""))
		told(c.isPath, "https://a/"+s, absoluteOf("https", named("a", -1), "/"+s))
		told(true, "https://[::1]:1?"+s, asked(absoluteOf("https", six("::1", 1), ""), s))
		told(c.isName, s+":80", authorityOf(named(s, 80)))
		parsed(t, s, "/", origin("/"))
		refused(t, s, "*")
		refused(t, s, "a:80")
		sent(t, asked(origin(s), s), s+"?"+s)
		sent(t, api.Target{Kind: api.Asterisk, Path: s}, "*")
		sent(t, api.Target{Kind: api.Authority, Path: s}, "")
	}
}

// P1: every call ends soon of long texts that are in no target.
func TestLongTextsOfWrong(t *testing.T) {
	for _, unit := range []string{"%", "#", " ", "[::1]", "://\n", "\x00", "\xff"} {
		s := long(unit)
		for _, text := range []string{s, "/" + s, "/?" + s, "*" + s, s + "*", "http" + s, "http://" + s, "http://" + s + "/", "http://a" + s, "http://a:" + s, "http://a:80" + s, "http://a/" + s, "http://a?" + s, "http://[" + s, "http://[" + s + "]", s + "http://a", s + "://a", s + ":80", "a:" + s, "a:80" + s} {
			refused(t, "OPTIONS", text)
			refused(t, "CONNECT", text)
		}
		for _, x := range []api.Target{
			origin(s), origin("/" + s), asked(origin("/"), s), absoluteOf(s, named("a", -1), ""), absoluteOf("http", named(s, -1), ""), absoluteOf("http", four(s, -1), ""), absoluteOf("http", six(s, -1), ""), absoluteOf("http", named("a", -1), s), asked(absoluteOf("http", named("a", -1), ""), s), authorityOf(named(s, 80)), {Kind: api.Asterisk, Path: s}, {Kind: 5, Path: s},
		} {
			unwritten(t, x)
		}
		sent(t, asked(origin(s), s), s+"?"+s)
	}
}

// The chapter's example.
func TestExample(t *testing.T) {
	x := asked(absoluteOf("http", named("a", 80), ""), "x")
	parsed(t, "GET", "HTTP://a:80?x", x)
	sent(t, x, "/?x")
	written(t, x, "http://a:80?x")
}
