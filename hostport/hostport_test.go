package hostport

import (
	"fmt"
	"maps"
	"math"
	"net/netip"
	"slices"
	"strconv"
	"strings"
	"testing"

	"doorstep/api"
	"doorstep/samples"
)

// named, four and six are hosts of their kinds.
func named(name string, port int) api.Host {
	return api.Host{Kind: api.HostName, Name: name, Port: port}
}
func four(name string, port int) api.Host { return api.Host{Kind: api.HostV4, Name: name, Port: port} }
func six(name string, port int) api.Host  { return api.Host{Kind: api.HostV6, Name: name, Port: port} }

// show is a host, to be told.
func show(h api.Host) string { return fmt.Sprintf("{%d %.80q %d}", h.Kind, h.Name, h.Port) }

// parsed tells whether Parse of a text answers what it should: a host, or an error and none.
func parsed(t *testing.T, s string, want api.Host, wantE api.Errno) {
	t.Helper()
	if h, e := Parse(s); h != want || e != wantE {
		t.Errorf("Parse of %.80q: %s, %d, want %s, %d", s, show(h), e, show(want), wantE)
	}
}

// refused tells whether Parse refuses a text.
func refused(t *testing.T, s string) {
	t.Helper()
	parsed(t, s, api.Host{}, api.ErrHost)
}

// written tells whether Text of a host answers what it should: a text, or an error and the empty one.
func written(t *testing.T, h api.Host, want string, wantE api.Errno) {
	t.Helper()
	if s, e := Text(h); s != want || e != wantE {
		t.Errorf("Text of %s: %.80q, %d, want %.80q, %d", show(h), s, e, want, wantE)
	}
}

// asked tells whether a question about a text is answered as it should be.
func asked(t *testing.T, what string, is func(string) bool, s string, want bool) {
	t.Helper()
	if is(s) != want {
		t.Errorf("%s of %.80q: %v, want %v", what, s, !want, want)
	}
}

// under tells whether Under answers what it should.
func under(t *testing.T, name, domain string, want bool) {
	t.Helper()
	if Under(name, domain) != want {
		t.Errorf("Under of %.80q and %.80q: %v, want %v", name, domain, !want, want)
	}
}

// isPlain: a byte that stands for itself in a host's name.
func isPlain(b byte) bool { return samples.IsUnreserved(b) || samples.IsSub(b) }

// allNames is every host's name of an alphabet's bytes up to a length, made from the document's words.
func allNames(alphabet string, most int) samples.Set {
	units := append(samples.Bytes(alphabet, isPlain), samples.Escapes(alphabet)...)
	return samples.SetOf(samples.Texts(units, most)[1:]...)
}

// joined is each row of so many units with a mark between each two, up to a length.
func joined(units []string, mark string, count, most int) []string {
	if count == 0 {
		return []string{""}
	}
	all := []string{}
	for _, u := range units {
		if len(u) <= most {
			all = append(all, u)
		}
	}
	for range count - 1 {
		longer := []string{}
		for _, s := range all {
			for _, u := range units {
				if len(s)+len(mark)+len(u) <= most {
					longer = append(longer, s+mark+u)
				}
			}
		}
		all = longer
	}
	return all
}

// allFours is every address of four of an alphabet's digits up to a length, made from the document's words.
func allFours(alphabet string, most int) samples.Set {
	units := []string{}
	for n := range 256 {
		if s := strconv.Itoa(n); strings.Trim(s, alphabet) == "" {
			units = append(units, s)
		}
	}
	if !strings.Contains(alphabet, ".") {
		return samples.Set{}
	}
	return samples.SetOf(joined(units, ".", 4, most)...)
}

// groupsOf is every group of an alphabet's digits.
func groupsOf(alphabet string) []string {
	return samples.Texts(samples.Bytes(alphabet, samples.IsHex), 4)[1:]
}

// allSixes is every address of six of some groups, and of some addresses of four, up to a length, made from the document's words.
func allSixes(groups, fours []string, most int) samples.Set {
	all := samples.Set{}
	put := func(s string) {
		if len(s) <= most {
			all[s] = true
		}
	}
	for n := range 9 {
		for _, ahead := range joined(groups, ":", n, most) {
			if n == 8 {
				put(ahead)
			}
			if n == 6 {
				for _, f := range fours {
					put(ahead + ":" + f)
				}
			}
			for m := 0; n+m <= 7; m++ {
				for _, behind := range joined(groups, ":", m, most-2-len(ahead)) {
					put(ahead + "::" + behind)
				}
				if m < 2 {
					continue
				}
				for _, behind := range joined(groups, ":", m-2, most-2-len(ahead)) {
					for _, f := range fours {
						put(ahead + "::" + strings.TrimPrefix(behind+":"+f, ":"))
					}
				}
			}
		}
	}
	return all
}

// P8.1: a host's name: each byte unreserved, a sub, or an escape of three.
func TestName(t *testing.T) {
	for _, s := range []string{
		"a", "A", "0", "-", ".", "_", "~", "!", "$", "&", "'", "(", ")", "*", "+", ",", ";", "=",
		"a.de", "a.de.", ".a", "..", "a-b_c~d", "xn--bcher-kva.example", "1.2.3.4", "1.2.3.400", "1.2.3", "256", "localhost",
		"%00", "%ff", "%FF", "%fF", "%41", "a%20b", "%e4%F6", "%2525", "a%41", "%41a",
		"abcdefghijklmnopqrstuvwxyzABCDEFGHIJKLMNOPQRSTUVWXYZ0123456789" + "-._~!$&'()*+,;=",
	} {
		asked(t, "Name", Name, s, true)
	}
	for _, s := range []string{
		"", " ", "a b", " a", "a ", "\t", "a:", ":", "a:80", "a/b", "a?b", "a#b", "a@b", "[a]", "[", "]", "[::1]", "::1", `"a"`, `a\b`, "a|b", "a^b", "a`b", "{a}", "<a>",
		"%", "%%", "%4", "%4g", "%g4", "%%41", "%4%1", "a%", "a%4", "%41%", "%41%4", "% 41", "%:1", "%-1", "%+1", "%0x",
		"\x00", "a\x00", "a\r\n", "\n", "\x7f", "\x80", "\xff", "\u00e4.de", "a\u3002de",
	} {
		asked(t, "Name", Name, s, false)
	}
}

// P8.1: each of the 256 bytes at each place of a name, and of an escape.
func TestNameOfEachByte(t *testing.T) {
	for n := range 256 {
		b := string([]byte{byte(n)})
		plain, hex := isPlain(byte(n)), samples.IsHex(byte(n))
		for _, s := range []string{b, b + "x", "x" + b, "x" + b + "x", "%00" + b, b + b, "x%4f" + b + "%00y"} {
			asked(t, "Name", Name, s, plain)
		}
		asked(t, "Name", Name, b+"00", plain || b == "%")
		for _, s := range []string{"%" + b + "0", "%0" + b, "x%a" + b + "x", "x%" + b + "Fx", "%" + b + b} {
			asked(t, "Name", Name, s, hex)
		}
	}
}

// P8.1: Name of every short text of the bytes by which it could go wrong, against all names.
func TestNameOfEveryShortText(t *testing.T) {
	for _, c := range []struct {
		alphabet string
		most     int
	}{{"%0", 12}, {"%0g", 8}, {"%fG:", 7}, {"%A. /", 6}} {
		all := allNames(c.alphabet, c.most)
		for _, s := range samples.Texts(samples.Each(c.alphabet), c.most) {
			asked(t, "Name", Name, s, all[s])
		}
	}
}

// P8.1: an address of four: four numbers from 0 to 255, with a dot between each two, without noughts ahead.
func TestFour(t *testing.T) {
	for _, s := range []string{"0.0.0.0", "1.2.3.4", "255.255.255.255", "127.0.0.1", "10.20.30.40", "249.250.251.252", "99.100.199.200"} {
		asked(t, "Four", Four, s, true)
	}
	for _, s := range []string{
		"", ".", "...", "1", "1.2", "1.2.3", "1.2.3.", ".1.2.3", "1.2.3.4.", ".1.2.3.4", "1..2.3", "1.2..3.4", "1.2.3..4", "1.2.3.4.5", "1.2.3.4.", "1.2.3.4..",
		"256.1.1.1", "1.256.1.1", "1.1.256.1", "1.1.1.256", "1.2.3.400", "1.2.3.1000", "1.2.3.4294967296", "1.2.3.18446744073709551617", "300.300.300.300",
		"01.2.3.4", "1.02.3.4", "1.2.003.4", "1.2.3.04", "00.0.0.0", "0.0.0.00", "1.2.3.000", "0255.1.1.1",
		" 1.2.3.4", "1.2.3.4 ", "1. 2.3.4", "1 .2.3.4", "1.2.3.4\n", "1.2.3.4\x00", "+1.2.3.4", "-1.2.3.4", "1.2.3.-4", "0x1.2.3.4", "1.2.3.a", "a.2.3.4", "1,2,3,4", "1:2:3:4", "1.2.3:4", "1.2.3.4:80", "[1.2.3.4]", "1.2.3.4/8", "\uff11.2.3.4", "1.2.3.\u0664", "1.2.3.4%41", "::1.2.3.4", "%31.2.3.4",
	} {
		asked(t, "Four", Four, s, false)
	}
}

// P8.1: each number, with and without noughts ahead, at each place of an address of four.
func TestFourOfEachNumber(t *testing.T) {
	for n := range 1100 {
		for _, noughts := range []string{"", "0", "00", "000"} {
			number := noughts + strconv.Itoa(n)
			for _, s := range []string{number + ".1.2.3", "0." + number + ".0.0", "255.255." + number + ".255", "1.2.3." + number} {
				asked(t, "Four", Four, s, n < 256 && noughts == "")
			}
		}
	}
}

// P8.1: each of the 256 bytes at each place of an address of four.
func TestFourOfEachByte(t *testing.T) {
	for n := range 256 {
		b := string([]byte{byte(n)})
		digit := n >= '0' && n <= '9'
		asked(t, "Four", Four, b+".1.1.1", digit)
		asked(t, "Four", Four, "1.1.1."+b, digit)
		asked(t, "Four", Four, "1."+b+".1.1", digit)
		asked(t, "Four", Four, "1.1"+b+".1.1", digit)
		asked(t, "Four", Four, "1."+b+"1.1.1", digit && b != "0")
		asked(t, "Four", Four, "1.1"+b+"1.1", b == ".")
		asked(t, "Four", Four, b+"1.1.1.1", digit && b != "0")
		asked(t, "Four", Four, "1.1.1.1"+b, digit)
	}
}

// P8.1: Four of every short text of the bytes by which it could go wrong, against all addresses of four.
func TestFourOfEveryShortText(t *testing.T) {
	for _, c := range []struct {
		alphabet string
		most     int
	}{{".1", 16}, {".01", 10}, {".256", 9}, {".0:a", 8}} {
		all := allFours(c.alphabet, c.most)
		for _, s := range samples.Texts(samples.Each(c.alphabet), c.most) {
			asked(t, "Four", Four, s, all[s])
		}
	}
}

// P8.1: an address of six, without brackets.
func TestSix(t *testing.T) {
	for _, s := range []string{
		"::", "::1", "1::", "1::1", "::1:2:3:4:5:6:7", "1:2:3:4:5:6:7::", "1:2:3::5:6:7:8", "1::3:4:5:6:7:8", "1:2:3:4:5:6::8",
		"1:2:3:4:5:6:7:8", "0:0:0:0:0:0:0:0", "0000:0000:0000:0000:0000:0000:0000:0000", "ffff:FFFF:fFfF:abcd:ABCD:0a:0:00", "2001:db8::1", "fe80::a:b",
		"::1.2.3.4", "::ffff:1.2.3.4", "1::1.2.3.4", "1:2:3:4:5:6:1.2.3.4", "1:2:3:4:5::1.2.3.4", "::2:3:4:5:6:1.2.3.4", "64:ff9b::192.0.2.33", "::255.255.255.255", "::0.0.0.0",
	} {
		asked(t, "Six", Six, s, true)
	}
	for _, s := range []string{
		"", ":", ":::", "::::", "1", "1:", ":1", "1:2", "1:2:3:4:5:6:7", "1:2:3:4:5:6:7:", ":1:2:3:4:5:6:7", "1:2:3:4:5:6:7:8:", ":1:2:3:4:5:6:7:8", "1:2:3:4:5:6:7:8:9",
		"1:2:3:4:5:6:7:8::", "::1:2:3:4:5:6:7:8", "1:2:3:4::5:6:7:8", "1::2::3", "::1::", "1::2::", "::1::2", ":::1", "1:::", "1:::2", "1::2:", ":1::2", "::1:", ":1::", "1:::1.2.3.4", "::1::1.2.3.4",
		"12345::", "::12345", "1:2:3:4:5:6:7:00008", "00000::", "::g", "g::", "1:2:3:4:5:6:7:g", "::-1", "::+1", "::0x1", "::1 ", " ::1", "1: :1", "::1\n", "::\x00", "::\u0661",
		"1.2.3.4", ":1.2.3.4", "1.2.3.4:", "1.2.3.4::", "::1.2.3.4:5", "1.2.3.4::1", "1.2.3.4:1:2:3:4:5:6", "1:1.2.3.4:2:3:4:5:6", "::1.2.3.4:1.2.3.4", "1:2:3:4:5:6:7:1.2.3.4", "1:2:3:4:5:1.2.3.4", "1:2:3:4:5:6::1.2.3.4", "::2:3:4:5:6:7:1.2.3.4", "1:2:3:4:5:6:1.2.3.4::",
		"::1.2.3", "::1.2.3.256", "::1.2.3.04", "::1.2.3.4.5", "::1.2", "::.1.2.3", "::1.2.3.", "::a.2.3.4", "::1.2.3.a", "1.2::",
		"[::1]", "[::]", "::1]", "[::1", "::1%1", "::1%25eth0", "fe80::1%eth0", "::1/64", "[::1]:80", "v1.a", "a.de",
	} {
		asked(t, "Six", Six, s, false)
	}
}

// P8.1: each of the 256 bytes at each place of an address of six.
func TestSixOfEachByte(t *testing.T) {
	for n := range 256 {
		b := string([]byte{byte(n)})
		hex, mark := samples.IsHex(byte(n)), b == ":"
		for _, s := range []string{"::" + b, b + "::", "1:2:3:" + b + ":5:6:7:8", "::" + b + "234", "123" + b + "::", "::0" + b + ":1.2.3.4"} {
			asked(t, "Six", Six, s, hex)
		}
		for _, s := range []string{b + ":2:3:4:5:6:7:8", "1:2:3:4:5:6:7:" + b} {
			asked(t, "Six", Six, s, hex || mark)
		}
		asked(t, "Six", Six, ":"+b+"1", mark)
		asked(t, "Six", Six, "1:"+b, mark)
		asked(t, "Six", Six, "1:"+b+":1", false)
		asked(t, "Six", Six, "1"+b+":1", mark)
		asked(t, "Six", Six, "::1"+b, hex)
		asked(t, "Six", Six, b+"::1", hex)
		asked(t, "Six", Six, "::1.2.3."+b, n >= '0' && n <= '9')
		asked(t, "Six", Six, "::1.2"+b+"3.4", b == ".")
		asked(t, "Six", Six, "1:2:3:4:5:6:7"+b+"8", mark)
		asked(t, "Six", Six, "::1.2.3.4"+b, n >= '0' && n <= '9')
	}
}

// isSix is what the library says of an address of six, of which it takes zones beside.
func isSix(s string) bool {
	a, err := netip.ParseAddr(s)
	return err == nil && a.Is6() && a.Zone() == ""
}

// P8.1: Six of every short text, and of every short row of pieces, against all addresses of six, and against another reader.
func TestSixOfEveryShortText(t *testing.T) {
	for _, c := range []struct {
		units, groups, fours []string
		most                 int
	}{
		{samples.Each(":1"), groupsOf("1"), nil, 17},
		{samples.Each(":0f"), groupsOf("0f"), nil, 9},
		{samples.Each(":1."), groupsOf("1"), slices.Collect(maps.Keys(allFours("1.", 9))), 11},
		{samples.Each(":Ag"), groupsOf("A"), nil, 9},
	} {
		all := allSixes(c.groups, c.fours, c.most)
		for _, s := range samples.Texts(c.units, c.most) {
			asked(t, "Six", Six, s, all[s])
			asked(t, "the library", isSix, s, all[s])
		}
	}
}

// P8.1: Six of rows of groups, colons and addresses of four, up to the longest that is one and beyond.
func TestSixOfEveryRow(t *testing.T) {
	// Each piece is one letter, so that rows are counted by their pieces.
	spell := strings.NewReplacer("g", "1", "f", "1.1.1.1")
	all := samples.Set{}
	for s := range allSixes([]string{"g"}, []string{"f"}, 15) {
		all[spell.Replace(s)] = true
	}
	for _, row := range samples.Texts(samples.Each(":gf"), 12) {
		if strings.Contains(row, "gg") || strings.Contains(row, "gf") || strings.Contains(row, "fg") || strings.Contains(row, "ff") {
			continue
		}
		s := spell.Replace(row)
		asked(t, "Six", Six, s, all[s])
	}
	for n := range 12 {
		for m := range 12 {
			for _, last := range []string{"1", "1.1.1.1"} {
				for _, mark := range []string{":", "::"} {
					s := strings.Join(strings.Split(strings.Repeat("1", n), ""), ":") + mark + strings.Repeat("1:", m) + last
					asked(t, "Six", Six, s, all[s])
				}
			}
		}
	}
}

// P8.1: a host, alone or with a port, of the first kind that it is of.
func TestParse(t *testing.T) {
	for _, c := range []struct {
		s    string
		want api.Host
	}{
		{"a", named("a", -1)},
		{"a.de", named("a.de", -1)},
		{"A.De", named("A.De", -1)},
		{"a.de:80", named("a.de", 80)},
		{"a:0", named("a", 0)},
		{"a:9", named("a", 9)},
		{"a:65535", named("a", 65535)},
		{"a:10000", named("a", 10000)},
		{"%41%3a:1", named("%41%3a", 1)},
		{"%5B:1", named("%5B", 1)},
		{"-._~!$&'()*+,;=", named("-._~!$&'()*+,;=", -1)},
		{"-._~!$&'()*+,;=:1", named("-._~!$&'()*+,;=", 1)},
		{"80", named("80", -1)},
		{"80:80", named("80", 80)},
		{".", named(".", -1)},
		{"1.2.3.4", four("1.2.3.4", -1)},
		{"1.2.3.4:80", four("1.2.3.4", 80)},
		{"0.0.0.0:0", four("0.0.0.0", 0)},
		{"255.255.255.255:65535", four("255.255.255.255", 65535)},
		{"1.2.3.400", named("1.2.3.400", -1)},
		{"1.2.3.400:80", named("1.2.3.400", 80)},
		{"1.2.3.04", named("1.2.3.04", -1)},
		{"1.2.3", named("1.2.3", -1)},
		{"1.2.3:4", named("1.2.3", 4)},
		{"1.2.3.4.", named("1.2.3.4.", -1)},
		{"1.2.3.4.5", named("1.2.3.4.5", -1)},
		{"%31.2.3.4", named("%31.2.3.4", -1)},
		{"[::]", six("::", -1)},
		{"[::1]", six("::1", -1)},
		{"[::1]:80", six("::1", 80)},
		{"[::1]:0", six("::1", 0)},
		{"[::1]:65535", six("::1", 65535)},
		{"[1:2:3:4:5:6:7:8]:8", six("1:2:3:4:5:6:7:8", 8)},
		{"[2001:DB8::0001]", six("2001:DB8::0001", -1)},
		{"[::1.2.3.4]:80", six("::1.2.3.4", 80)},
		{"[1:2:3:4:5:6:1.2.3.4]", six("1:2:3:4:5:6:1.2.3.4", -1)},
	} {
		parsed(t, c.s, c.want, api.OK)
		written(t, c.want, c.s, api.OK)
	}
}

// P8.1: what is no host, and no port.
func TestParseOfWrong(t *testing.T) {
	for _, s := range []string{
		"", " ", ":", "::", ":80", ":0", "a:", "a::", "a:80:", "a:80:80", "a::80", ":a", "a:b", "a:b:80", "a:-1", "a:+1", "a: 1", "a:1 ", "a :1", " a:1", "a:0x1", "a:1.0", "a:1e1", "a:%31", "a:\uff11",
		"a:00", "a:08", "a:080", "a:00080", "a:000000", "a:065535", "a:65536", "a:99999", "a:100000", "a:655350", "a:4294967376", "a:18446744073709551696", "a:340282366920938463463374607431768211536",
		"a b", " a", "a ", "a\t", "a\r\n", "a\n:80", "a/", "a/b", "http://a", "u@a", "u:p@a", "a?", "a#", "a%", "a%2", "%zz", "%%", `"a"`, "a\\", "\x00", "a\x00:80", "\u00e4.de", "\xff", "a,b c", "a, b",
		"::1", "1::", "::1:80", "1:2:3:4:5:6:7:8", "::1.2.3.4", "2001:db8::1",
		"[", "]", "[]", "[]:80", "[:80", "]:80", "[::1", "::1]", "[::1:80", "[::1]80", "[::1]a", "[::1] ", "[::1] :80", "[::1]:", "[::1]::80", "[::1]:080", "[::1]:65536", "[::1]:a", "[::1]]", "[[::1]]", "[[::1]", "[::1]]:80", "[::1]:80]", "[::1]:80[", "a[::1]", "[::1][::1]", " [::1]", "[ ::1]", "[::1 ]",
		"[a]", "[a.de]", "[1.2.3.4]", "[1.2.3.4]:80", "[1]", "[1:2]", "[:::]", "[::g]", "[::1%1]", "[::1%25eth0]", "[v1.a]", "[v1.a:b]", "[::1.2.3.256]", "[1:2:3:4:5:6:7]", "[1:2:3:4:5:6:7:8:9]", "{::1}", "(::1)",
		"a:80]", "[a:80", "a]:80", "[a]:80", "a[:80", "1.2.3.4:", "1.2.3.4:08", "1.2.3.4::1", "1.2.3.4:65536", "1.2.3.4 :80", "1.2.3.4/8",
	} {
		refused(t, s)
	}
}

// P8.1: every port, and every number beyond it of five digits and more, with noughts ahead too.
func TestParseOfEachPort(t *testing.T) {
	for n := range 110000 {
		s := strconv.Itoa(n)
		if n > 65535 {
			refused(t, "a:"+s)
			written(t, named("a", n), "", api.ErrHost)
			continue
		}
		parsed(t, "a:"+s, named("a", n), api.OK)
		written(t, named("a", n), "a:"+s, api.OK)
		refused(t, "a:0"+s)
		if n%100 == 0 {
			parsed(t, "[::]:"+s, six("::", n), api.OK)
			parsed(t, "1.2.3.4:"+s, four("1.2.3.4", n), api.OK)
			refused(t, "[::]:00"+s)
			refused(t, "1.2.3.4:"+strings.Repeat("0", 30)+s)
		}
	}
}

// P8.1: each of the 256 bytes at each place of a host and its port.
func TestParseOfEachByte(t *testing.T) {
	for n := range 256 {
		b := string([]byte{byte(n)})
		check := func(ok bool, s string, want api.Host) {
			t.Helper()
			if ok {
				parsed(t, s, want, api.OK)
			} else {
				refused(t, s)
			}
		}
		plain, digit := isPlain(byte(n)), n >= '0' && n <= '9'
		check(plain, b, named(b, -1))
		check(plain, b+"a:1", named(b+"a", 1))
		check(plain, "a"+b, named("a"+b, -1))
		check(plain, "a"+b+":1", named("a"+b, 1))
		check(digit, "a:"+b, named("a", n-'0'))
		check(digit, "a:1"+b, named("a", 10+n-'0'))
		check(digit && b != "0", "a:"+b+"1", named("a", 10*(n-'0')+1))
		check(digit && b <= "5", "a:6553"+b, named("a", 65530+n-'0'))
		if b == ":" {
			check(true, "a"+b+"1", named("a", 1))
		} else {
			check(plain, "a"+b+"1", named("a"+b+"1", -1))
		}
		check(b == "[", b+"::1]:1", six("::1", 1))
		check(b == "]", "[::1"+b+":1", six("::1", 1))
		check(b == ":", "[::1]"+b+"1", six("::1", 1))
		check(false, "[::1]"+b, api.Host{})
		check(false, b+"[::1]", api.Host{})
		check(samples.IsHex(byte(n)), "["+b+"::1]", six(b+"::1", -1))
	}
}

// allHosts is every text of an alphabet, up to a length, that Parse takes, with its host: made from the document's words, not read.
func allHosts(alphabet string, ports []int, groups, fours []string, most int) map[string]api.Host {
	all := map[string]api.Host{}
	put := func(s string, h api.Host) {
		for _, port := range append([]int{-1}, ports...) {
			text := s
			if h.Port = port; port >= 0 {
				text += ":" + strconv.Itoa(port)
			}
			if len(text) <= most {
				all[text] = h
			}
		}
	}
	isFour := allFours(alphabet, most)
	for s := range allNames(alphabet, most) {
		if isFour[s] {
			put(s, four(s, -1))
		} else {
			put(s, named(s, -1))
		}
	}
	if strings.Contains(alphabet, "[") {
		for s := range allSixes(groups, fours, most-2) {
			put("["+s+"]", six(s, -1))
		}
	}
	return all
}

// shortHosts is alphabets by whose texts Parse could go wrong, with all hosts of each.
func shortHosts() []struct {
	alphabet string
	most     int
	all      map[string]api.Host
} {
	type row = struct {
		alphabet string
		most     int
		all      map[string]api.Host
	}
	ports := func(alphabet string, most int) []int {
		l := []int{}
		for n := range 65536 {
			if s := strconv.Itoa(n); len(s) <= most && strings.Trim(s, alphabet) == "" {
				l = append(l, n)
			}
		}
		return l
	}
	return []row{
		{"a:[]0", 8, allHosts("a:[]0", ports("0", 5), groupsOf("a0"), nil, 8)},
		{"1.:", 11, allHosts("1.:", ports("1", 5), nil, nil, 11)},
		{"1.:[]", 8, allHosts("1.:[]", ports("1", 5), groupsOf("1"), nil, 8)},
		{"%0:g", 8, allHosts("%0:g", ports("0", 5), nil, nil, 8)},
		{"06:5 ", 7, allHosts("06:5 ", ports("065", 5), nil, nil, 7)},
	}
}

// P8.1: Parse of every short text of the bytes by which it could go wrong, against all hosts.
func TestParseOfEveryShortText(t *testing.T) {
	for _, c := range shortHosts() {
		right := 0
		for _, s := range samples.Texts(samples.Each(c.alphabet), c.most) {
			if want, is := c.all[s]; is {
				right++
				parsed(t, s, want, api.OK)
			} else {
				refused(t, s)
			}
		}
		if right != len(c.all) {
			t.Errorf("%q: %d hosts of %d were looked at", c.alphabet, right, len(c.all))
		}
	}
}

// P8.2, P8.4: Text of all hosts is their text, and Parse of it the host.
func TestTextOfEveryHost(t *testing.T) {
	for _, c := range shortHosts() {
		for s, h := range c.all {
			written(t, h, s, api.OK)
		}
	}
}

// P8.2: Text of every row of a kind, a name and a port that are near hosts, against what Parse tells of texts.
func TestTextOfEveryNearHost(t *testing.T) {
	const most = 7
	isName := samples.SetOf(samples.Texts([]string{"a", "1", "%41", "1.1.1.1"}, most)[1:]...)
	for _, name := range samples.Texts(append(samples.Each("a:[]1"), "1.1.1.1", "%41"), most) {
		for kind := api.HostKind(-1); kind <= 4; kind++ {
			is := kind == api.HostName && isName[name] && name != "1.1.1.1" ||
				kind == api.HostV4 && name == "1.1.1.1" ||
				kind == api.HostV6 && isSix(name)
			for _, port := range []int{math.MinInt, -65536, -2, -1, 0, 1, 80, 65535, 65536, math.MaxInt} {
				want, wantE := name, api.OK
				if kind == api.HostV6 {
					want = "[" + name + "]"
				}
				if port >= 0 {
					want += ":" + strconv.Itoa(port)
				}
				if !is || port < -1 || port > 65535 {
					want, wantE = "", api.ErrHost
				}
				written(t, api.Host{Kind: kind, Name: name, Port: port}, want, wantE)
			}
		}
	}
}

// P8.2: hosts of which no text tells.
func TestTextOfWrong(t *testing.T) {
	for _, h := range []api.Host{
		{}, {Port: -1}, {Name: "a", Port: -1}, {Name: "1.2.3.4", Port: -1}, {Name: "::1", Port: -1}, {Name: "[::1]", Port: -1}, {Name: "a", Port: 80},
		{Kind: 4, Name: "a", Port: -1}, {Kind: -1, Name: "a", Port: -1}, {Kind: math.MaxInt, Name: "::1", Port: -1}, {Kind: 4, Name: "[::1]", Port: -1},
		named("", -1), named("", 80), named("a:80", -1), named("a:80", 80), named("a:", 80), named(":", -1), named("1.2.3.4", -1), named("1.2.3.4", 80), named("1.2.3.4:80", -1), named("::1", -1), named("[::1]", -1), named("[::1]", 80), named("[::1]:80", -1), named("a b", -1), named("a%", -1), named("a/b", -1), named("\u00e4", -1), named("a\r\n", -1), named("\x00", -1),
		named("a", -2), named("a", math.MinInt), named("a", 65536), named("a", 99999), named("a", math.MaxInt), named("a", 1<<32), named("a", 1<<32+80),
		four("", -1), four("a", -1), four("1.2.3", -1), four("1.2.3.400", -1), four("1.2.3.04", -1), four("1.2.3.4:80", -1), four("1.2.3.4:80", 80), four("::1", -1), four("[::1]", -1), four(" 1.2.3.4", -1), four("1.2.3.4", -2), four("1.2.3.4", 65536), four("%31.2.3.4", -1),
		six("", -1), six("a", -1), six("1.2.3.4", -1), six("[::1]", -1), six("[::1]", 80), six(":::", -1), six("::1]", -1), six("[::1", -1), six("::1]:80", -1), six("::1]:80", 80), six("::1:80]", -1), six("::1%1", -1), six("1:2:3:4:5:6:7", -1), six("::1", -2), six("::1", 65536), six(" ::1", -1), six("::1][::1", -1), six("::1]:8[", -1),
	} {
		written(t, h, "", api.ErrHost)
	}
}

// P8.3: both are hosts' names, none an address of four, and the same, or the one ends with a dot and the other.
func TestUnder(t *testing.T) {
	for _, c := range []struct{ name, domain string }{
		{"a.de", "a.de"}, {"www.a.de", "a.de"}, {"WWW.A.DE", "a.de"}, {"www.a.de", "A.De"}, {"A.dE", "a.De"}, {"b.www.a.de", "a.de"}, {"b.www.a.de", "www.a.de"}, {"b.www.a.de", "de"},
		{"a", "a"}, {"a.a", "a"}, {"a.a.a", "a.a"}, {".a", "a"}, {"..a", "a"}, {"..a", ".a"}, {".", "."}, {"..", "."}, {"a..", "."}, {"a.de.", "de."}, {"a..de", "de"}, {"a..de", ".de"},
		{"%4a.de", "%4A.DE"}, {"x.%4a", "%4A"}, {"-.!", "!"}, {"1.2.3", "2.3"}, {"1.2.3.400", "3.400"}, {"1.2.3.4.5", "5"}, {"01.2.3.4", "4"}, {"a.256.2.3.4", "256.2.3.4"}, {"4", "4"},
	} {
		under(t, c.name, c.domain, true)
	}
	for _, c := range []struct{ name, domain string }{
		{"xa.de", "a.de"}, {"a.de", "www.a.de"}, {"a.de", "b.de"}, {"www.a.de", "w.a.de"}, {"a.de", ".a.de"}, {"a.de.", "a.de"}, {"a.de", "a.de."}, {"a.dex", "a.de"}, {"www.a.de", "www.a"}, {"www.a.de", "www"}, {"a.de", "e"}, {"aXde", "de"}, {"a-de", "de"}, {"a.de", "d"}, {"a", "."}, {"a.", "a"},
		{"", ""}, {"", "a"}, {"a", ""}, {"a.", ""}, {".", ""},
		{"1.2.3.4", "1.2.3.4"}, {"1.2.3.4", "3.4"}, {"1.2.3.4", "4"}, {"a.1.2.3.4", "1.2.3.4"}, {"x.1.2.3.4", "1.2.3.4"}, {"1.2.3.4", "a"}, {"a", "1.2.3.4"},
		{"::1", "::1"}, {"[::1]", "[::1]"}, {"a.[::1]", "[::1]"}, {"a:80", "a:80"}, {"a.de:80", "a.de"}, {"a.de", "a.de:80"}, {"b.a:80", "a:80"},
		{"a b", "a b"}, {"a b.de", "de"}, {"b.a c", "a c"}, {"a/b.de", "de"}, {"%", "%"}, {"%4.de", "de"}, {"\u00e4", "\u00e4"}, {"\u00e4.de", "de"}, {"a.\u00e4", "\u00e4"}, {"a\x00", "a\x00"}, {"a\n.de", "de"}, {"a.de\n", "de\n"},
		{"%41", "A"}, {"%41", "a"}, {"a.de", "%61.de"}, {"a%2ede", "de"}, {"@", "`"}, {"!", "A"}, {"_", "\x7f"},
	} {
		under(t, c.name, c.domain, false)
	}
}

// P8.3: each of the 256 bytes ahead of a domain, and against each other one.
func TestUnderOfEachByte(t *testing.T) {
	for n := range 256 {
		b := string([]byte{byte(n)})
		under(t, b+"de", "de", b == ".")
		under(t, "a"+b+"de", "de", b == ".")
		under(t, b+".de", "de", isPlain(byte(n)))
		under(t, "a."+b, b, isPlain(byte(n)))
		for m := range 256 {
			c := string([]byte{byte(m)})
			same := isPlain(byte(n)) && isPlain(byte(m)) && (b == c || samples.IsLetter(byte(n)) && samples.IsLetter(byte(m)) && (n^m) == 32)
			under(t, b, c, same)
			under(t, "x."+b, "x."+c, same)
		}
	}
}

// P8.3, P8.4: Under of all short names, by their bytes; and what is under what is under a domain is under it.
func TestUnderOfUnder(t *testing.T) {
	names := samples.Texts(append(samples.Each("a.B "), "b", "1.1.1.1"), 4)
	names = append(names, "1.1.1.1", "a.1.1.1.1", "1.1.1.1.1", "1.1.1.256", "1.1", "1", "%", "%41")
	below := map[string][]string{}
	for _, name := range names {
		for _, domain := range names {
			a, b := strings.ToLower(name), strings.ToLower(domain)
			want := a != "" && b != "" && !strings.ContainsAny(a+b, " ") && a != "%" && b != "%" && a != "1.1.1.1" && b != "1.1.1.1" && (a == b || strings.HasSuffix(a, "."+b))
			under(t, name, domain, want)
			if Under(name, domain) {
				below[domain] = append(below[domain], name)
			}
		}
	}
	for domain, l := range below {
		for _, middle := range l {
			for _, name := range below[middle] {
				under(t, name, domain, true)
			}
		}
	}
}

// P1: every call ends soon of long texts, whatever they are.
func TestLongTexts(t *testing.T) {
	for _, c := range []struct {
		unit   string
		isName bool
	}{
		{"a", true}, {".", true}, {"0", true}, {"1", true}, {"0.", true}, {"255.", true}, {"%41", true}, {"a.", true},
		{"%", false}, {"1:", false}, {":", false}, {"a:", false}, {"[", false}, {"]", false}, {"[::1]", false}, {"1:1.1.1.1:", false}, {"%4", false}, {" ", false}, {"\x00", false}, {"\xff", false},
	} {
		s := strings.Repeat(c.unit, api.MaxText/len(c.unit))
		asked(t, "Name", Name, s, c.isName)
		asked(t, "Four", Four, s, false)
		asked(t, "Six", Six, s, false)
		under(t, s, s, c.isName)
		under(t, "a."+s, s, c.isName)
		under(t, s+"a", s, false)
		if c.isName {
			parsed(t, s, named(s, -1), api.OK)
			parsed(t, s+":80", named(s, 80), api.OK)
			written(t, named(s, 80), s+":80", api.OK)
		} else {
			refused(t, s)
			refused(t, s+":80")
			written(t, named(s, 80), "", api.ErrHost)
		}
		for _, wrong := range []string{"a:" + s, "[" + s, "[" + s + "]", "[::" + s + "]:80", "1.2.3.4:" + s, "[::1]" + s, s + "[::1]"} {
			refused(t, wrong)
		}
		written(t, four(s, -1), "", api.ErrHost)
		written(t, six(s, -1), "", api.ErrHost)
	}
}

// The iterator over an address's numbers tells each once, as often as it is gone over, and ends where it is left.
func TestNumbers(t *testing.T) {
	for _, c := range []struct {
		s, mark string
		want    []string
	}{
		{"", ".", []string{""}}, {".", ".", []string{"", ""}}, {"1", ".", []string{"1"}}, {"1.2", ".", []string{"1", "2"}}, {"1.2:3.4", ":", []string{"1.2", "3.4"}}, {"::", ":", []string{"", "", ""}},
	} {
		l := numbers(c.s, c.mark)
		for range 2 {
			got := []string{}
			for s := range l {
				got = append(got, s)
			}
			if strings.Join(got, "|") != strings.Join(c.want, "|") || len(got) != len(c.want) {
				t.Errorf("numbers of %q: %q, want %q", c.s, got, c.want)
			}
		}
		for first := range l {
			if first != c.want[0] {
				t.Errorf("numbers of %q: %q first", c.s, first)
			}
			break
		}
	}
}

// The chapter's examples.
func TestExamples(t *testing.T) {
	parsed(t, "[::1]:80", six("::1", 80), api.OK)
	parsed(t, "1.2.3.4", four("1.2.3.4", -1), api.OK)
	parsed(t, "1.2.3.400", named("1.2.3.400", -1), api.OK)
	under(t, "www.a.de", "a.de", true)
}
