package numeral

import (
	"math"
	"math/big"
	"slices"
	"strings"
	"testing"

	"doorstep/api"
)

// reader is a call that reads digits, with its base and its digits written out; each digit's number is half its place in them.
type reader struct {
	name   string
	base   int
	digits string
	read   func(s string, most int) (int, api.Errno)
	write  func(n int) string
}

// readers is both of them: each digit stands twice, as a letter of either size.
func readers() []reader {
	return []reader{
		{"Decimal", 10, "00112233445566778899", Decimal, Text},
		{"Hex", 16, "00112233445566778899aAbBcCdDeEfF", Hex, HexText},
	}
}

// want is what a reader should answer, reckoned in numbers without an end.
func (r reader) want(s string, most int) (int, api.Errno) {
	if s == "" {
		return 0, api.ErrForm
	}
	n := new(big.Int)
	for i := range len(s) {
		place := strings.IndexByte(r.digits, s[i])
		if place < 0 {
			return 0, api.ErrForm
		}
		n.Mul(n, big.NewInt(int64(r.base)))
		n.Add(n, big.NewInt(int64(place/2)))
	}
	if n.Cmp(big.NewInt(int64(most))) > 0 {
		return 0, api.ErrNumber
	}
	return int(n.Int64()), api.OK
}

// reads tells whether a reader answers of a text what it should.
func reads(t *testing.T, r reader, s string, most int) {
	t.Helper()
	n, e := r.read(s, most)
	if want, err := r.want(s, most); n != want || e != err {
		t.Errorf("%s(%.50q, %d): %d, %d, want %d, %d", r.name, s, most, n, e, want, err)
	}
}

// mosts is numbers at the edges: of digits, of words, and of what an int holds.
func mosts() []int {
	l := []int{math.MinInt, math.MinInt + 1, -17, -16, -10, -9, -1, 0, 1, 7, 8, 9, 10, 15, 16, 17, 19, 99, 100, 159, 160, 255, 256, api.MaxBody - 1, api.MaxBody, api.MaxBody + 1}
	for back := range 40 {
		l = append(l, math.MaxInt-back)
	}
	for shift := 8; shift < 63; shift++ {
		l = append(l, 1<<shift-1, 1<<shift)
	}
	return l
}

// P3.1: every text of one byte and of two.
func TestReadShort(t *testing.T) {
	for _, r := range readers() {
		for _, most := range []int{math.MinInt, -1, 0, 9, 42, 0xa0, math.MaxInt} {
			reads(t, r, "", most)
			for n := range 256 {
				reads(t, r, string([]byte{byte(n)}), most)
			}
		}
		for n := range 256 {
			for m := range 256 {
				reads(t, r, string([]byte{byte(n), byte(m)}), 0xa0)
			}
		}
	}
}

// P3.1: forms that numbers have elsewhere are none here.
func TestReadForm(t *testing.T) {
	for _, s := range []string{"", "+1", "-1", "-0", "+", "-", " 1", "1 ", "\t1", "1\r\n", "1,0", "1_0", "1.0", "0x1", "0X1", "0b1g", "1h", "1;", "\x001", "1\x00", "\u0661", "\uff11", "1\xff", "G", "g", "/", ":", "@", "`", "0o7"} {
		for _, r := range readers() {
			for _, most := range []int{math.MinInt, -1, 0, 9, math.MaxInt} {
				if n, e := r.read(s, most); n != 0 || e != api.ErrForm {
					t.Errorf("%s(%q, %d): %d, %d, want ErrForm", r.name, s, most, n, e)
				}
			}
		}
	}
	for _, s := range []string{"1a", "a", "A", "1e3", "ff"} {
		if n, e := Decimal(s, math.MaxInt); n != 0 || e != api.ErrForm {
			t.Errorf("Decimal(%q): %d, %d, want ErrForm", s, n, e)
		}
	}
}

// P3.1: ErrForm is told ahead of ErrNumber, wherever the wrong byte is.
func TestReadFormFirst(t *testing.T) {
	long := strings.Repeat("9", 60)
	for _, r := range readers() {
		for _, s := range []string{long + "x", "x" + long, long + "x" + long, "9x", "x9", "99 "} {
			for _, most := range []int{math.MinInt, -1, 0, 8, math.MaxInt} {
				if n, e := r.read(s, most); n != 0 || e != api.ErrForm {
					t.Errorf("%s(%q, %d): %d, %d, want ErrForm", r.name, s, most, n, e)
				}
			}
		}
	}
}

// P3.1: numbers beside each most, as texts of either size of letters, with noughts ahead and without.
func TestReadBesideMost(t *testing.T) {
	for _, r := range readers() {
		for _, most := range mosts() {
			for beside := -20; beside <= 20; beside++ {
				n := new(big.Int).Add(big.NewInt(int64(most)), big.NewInt(int64(beside)))
				if n.Sign() < 0 {
					n.Neg(n)
				}
				s := n.Text(r.base)
				for _, text := range []string{s, strings.ToUpper(s), "0" + s, strings.Repeat("0", 70) + s, s + "0"} {
					reads(t, r, text, most)
				}
			}
		}
	}
}

// P3.1: numbers that would come out small if they went round: beside each power of two and each multiple of 2^64.
func TestReadDoesNotGoRound(t *testing.T) {
	for _, r := range readers() {
		for shift := uint(60); shift < 140; shift++ {
			for beside := -3; beside <= 40; beside++ {
				n := new(big.Int).Lsh(big.NewInt(1), shift)
				n.Add(n, big.NewInt(int64(beside)))
				for _, most := range []int{-1, 0, 9, 42, math.MaxInt - 1, math.MaxInt} {
					reads(t, r, n.Text(r.base), most)
				}
			}
		}
		for times := range 300 {
			n := new(big.Int).Lsh(big.NewInt(int64(times)), 64)
			reads(t, r, n.Add(n, big.NewInt(7)).Text(r.base), math.MaxInt)
		}
	}
}

// P3.1: noughts ahead are let be, however many; of noughts alone the number is 0.
func TestReadNoughts(t *testing.T) {
	noughts := strings.Repeat("0", api.MaxText)
	for _, r := range readers() {
		for _, c := range []struct {
			s    string
			most int
			n    int
			e    api.Errno
		}{
			{noughts, 0, 0, api.OK},
			{noughts + "9", 9, 9, api.OK},
			{noughts + "9", 8, 0, api.ErrNumber},
			{noughts + "0", -1, 0, api.ErrNumber},
			{noughts + "x", 9, 0, api.ErrForm},
		} {
			if n, e := r.read(c.s, c.most); n != c.n || e != c.e {
				t.Errorf("%s of many noughts and %q, %d: %d, %d, want %d, %d", r.name, c.s[len(noughts):], c.most, n, e, c.n, c.e)
			}
		}
	}
}

// P3.1: letters of either size, beside each other, are the same digits.
func TestHexLetters(t *testing.T) {
	for _, c := range []struct {
		s string
		n int
	}{
		{"a", 10}, {"A", 10}, {"f", 15}, {"F", 15}, {"aA", 170}, {"Aa", 170}, {"7fFF", 32767}, {"DeadBeef", 3735928559},
		{"0123456789", 4886718345}, {"abcdef", 11259375}, {"ABCDEF", 11259375}, {"10", 16}, {"7FFFFFFFFFFFFFFF", math.MaxInt},
	} {
		if n, e := Hex(c.s, math.MaxInt); n != c.n || e != api.OK {
			t.Errorf("Hex(%q): %d, %d, want %d", c.s, n, e, c.n)
		}
	}
}

// P3.2: numbers in digits: by their texts written out.
func TestTexts(t *testing.T) {
	for _, c := range []struct {
		n            int
		decimal, hex string
	}{
		{0, "0", "0"}, {1, "1", "1"}, {9, "9", "9"}, {10, "10", "a"}, {15, "15", "f"}, {16, "16", "10"}, {255, "255", "ff"}, {256, "256", "100"},
		{1000, "1000", "3e8"}, {4096, "4096", "1000"}, {3735928559, "3735928559", "deadbeef"}, {81985529216486895, "81985529216486895", "123456789abcdef"},
		{api.MaxBody, "1099511627776", "10000000000"}, {math.MaxInt, "9223372036854775807", "7fffffffffffffff"},
	} {
		if got := Text(c.n); got != c.decimal {
			t.Errorf("Text(%d): %q, want %q", c.n, got, c.decimal)
		}
		if got := HexText(c.n); got != c.hex {
			t.Errorf("HexText(%d): %q, want %q", c.n, got, c.hex)
		}
	}
}

// P3.2: of a number below 0 there is no text.
func TestTextsBelowNought(t *testing.T) {
	for _, n := range []int{-1, -5, -9, -10, -16, -255, -1 << 31, -1 << 32, math.MinInt + 1, math.MinInt} {
		if got := Text(n); got != "" {
			t.Errorf("Text(%d): %q", n, got)
		}
		if got := HexText(n); got != "" {
			t.Errorf("HexText(%d): %q", n, got)
		}
	}
}

// numbers is all small ones, and those at the edges of mosts.
func numbers() []int {
	l := []int{}
	for n := range 1 << 17 {
		l = append(l, n)
	}
	for _, n := range mosts() {
		if n >= 0 {
			l = append(l, n)
		}
	}
	return l
}

// P3.2: digits of the base alone, small letters alone, and no nought ahead.
func TestTextsForm(t *testing.T) {
	for _, n := range numbers() {
		for _, r := range readers() {
			s := r.write(n)
			if want := big.NewInt(int64(n)).Text(r.base); s != want {
				t.Fatalf("%d to the base of %d: %q, want %q", n, r.base, s, want)
			}
			if s == "" || s[0] == '0' && s != "0" || strings.ToLower(s) != s {
				t.Fatalf("%d to the base of %d: %q", n, r.base, s)
			}
		}
	}
}

// P3.4: what is read of a number's text is the number, up to itself; up to less it is too great.
func TestReadOfText(t *testing.T) {
	for _, n := range numbers() {
		for _, r := range readers() {
			for _, most := range []int{n, math.MaxInt} {
				if got, e := r.read(r.write(n), most); got != n || e != api.OK {
					t.Fatalf("%s of the text of %d, %d: %d, %d", r.name, n, most, got, e)
				}
			}
			if got, e := r.read(r.write(n), n-1); got != 0 || e != api.ErrNumber {
				t.Fatalf("%s of the text of %d, %d: %d, %d, want ErrNumber", r.name, n, n-1, got, e)
			}
		}
	}
}

// P3.4: and so it is with noughts ahead, and, to the base of 16, in great letters.
func TestReadOfOtherText(t *testing.T) {
	for _, n := range numbers() {
		if got, e := Decimal("000"+Text(n), n); got != n || e != api.OK {
			t.Fatalf("Decimal of 000 and the text of %d: %d, %d", n, got, e)
		}
		if got, e := Hex("0"+strings.ToUpper(HexText(n)), n); got != n || e != api.OK {
			t.Fatalf("Hex of 0 and the text of %d: %d, %d", n, got, e)
		}
	}
}

// P3.3: ordinary sums, edges, and which error the first of the list tells.
func TestSum(t *testing.T) {
	const max, min = math.MaxInt, math.MinInt
	for _, c := range []struct {
		most int
		l    []int
		sum  int
		e    api.Errno
	}{
		{10, nil, 0, api.OK},
		{0, []int{}, 0, api.OK},
		{-1, nil, 0, api.OK},
		{min, nil, 0, api.OK},
		{10, []int{3, 7}, 10, api.OK},
		{10, []int{10}, 10, api.OK},
		{10, []int{0, 10, 0, 0}, 10, api.OK},
		{0, []int{0, 0}, 0, api.OK},
		{10, []int{11}, 0, api.ErrNumber},
		{10, []int{3, 8}, 0, api.ErrNumber},
		{10, []int{3, 7, 1}, 0, api.ErrNumber},
		{0, []int{1}, 0, api.ErrNumber},
		{-1, []int{0}, 0, api.ErrNumber},
		{min, []int{0}, 0, api.ErrNumber},
		{min, []int{max}, 0, api.ErrNumber},
		{10, []int{-1}, 0, api.ErrArg},
		{10, []int{min}, 0, api.ErrArg},
		{10, []int{3, -1, 3}, 0, api.ErrArg},
		{10, []int{3, 7, -1}, 0, api.ErrArg},
		{max, []int{max, min}, 0, api.ErrArg},
		// Where both come: the first of the list, and of one that has both ErrArg, which is named first.
		{10, []int{3, 8, -1}, 0, api.ErrNumber},
		{10, []int{-1, 11}, 0, api.ErrArg},
		{10, []int{11, -1}, 0, api.ErrNumber},
		{10, []int{3, -1, 11}, 0, api.ErrArg},
		{-5, []int{-1}, 0, api.ErrArg},
		{min, []int{-1}, 0, api.ErrArg},
		{-1, []int{0, -1}, 0, api.ErrNumber},
		// A sum above most is told, though a number behind it would bring it below.
		{10, []int{11, -5}, 0, api.ErrNumber},
		{max, []int{max, 1, -1}, 0, api.ErrNumber},
		// Sums that would go round, once and twice.
		{max, []int{max}, max, api.OK},
		{max, []int{max, 0}, max, api.OK},
		{max, []int{1, max - 1}, max, api.OK},
		{max, []int{1 << 62, 1<<62 - 1}, max, api.OK},
		{max, []int{1 << 62, 1 << 62}, 0, api.ErrNumber},
		{max, []int{1, max}, 0, api.ErrNumber},
		{max, []int{max, 1}, 0, api.ErrNumber},
		{max, []int{max, max}, 0, api.ErrNumber},
		{max, []int{max, max, 2}, 0, api.ErrNumber},
		{0, []int{max, max, 2}, 0, api.ErrNumber},
		{max - 1, []int{max}, 0, api.ErrNumber},
	} {
		if sum, e := Sum(c.most, c.l...); sum != c.sum || e != c.e {
			t.Errorf("Sum(%d, %d): %d, %d, want %d, %d", c.most, c.l, sum, e, c.sum, c.e)
		}
	}
}

// wantSum is what Sum should answer, reckoned in numbers without an end.
func wantSum(most int, l []int) (int, api.Errno) {
	sum := new(big.Int)
	for _, n := range l {
		if n < 0 {
			return 0, api.ErrArg
		}
		if sum.Add(sum, big.NewInt(int64(n))).Cmp(big.NewInt(int64(most))) > 0 {
			return 0, api.ErrNumber
		}
	}
	return int(sum.Int64()), api.OK
}

// P3.3: every list of at most four of some numbers, up to each of some mosts; and none of the lists is changed.
func TestSumOfLists(t *testing.T) {
	some := []int{math.MinInt, -1, 0, 1, 3, 7, 1 << 62, math.MaxInt - 1, math.MaxInt}
	lists, longest := [][]int{nil}, [][]int{nil}
	for range 4 {
		var longer [][]int
		for _, l := range longest {
			for _, n := range some {
				longer = append(longer, append(slices.Clone(l), n))
			}
		}
		lists, longest = append(lists, longer...), longer
	}
	for _, l := range lists {
		for _, most := range append(some, 4, 10, 14, 1<<62+1, -7) {
			kept := slices.Clone(l)
			sum, e := Sum(most, l...)
			if want, err := wantSum(most, l); sum != want || e != err {
				t.Fatalf("Sum(%d, %d): %d, %d, want %d, %d", most, l, sum, e, want, err)
			}
			if !slices.Equal(l, kept) {
				t.Fatalf("Sum changed its list: %d, and was %d", l, kept)
			}
		}
	}
}

// P3.3: a long list, to its end and one above.
func TestSumOfMany(t *testing.T) {
	l := make([]int, 1<<16)
	for i := range l {
		l[i] = i
	}
	all := (1<<16 - 1) * (1 << 15)
	if sum, e := Sum(all, l...); sum != all || e != api.OK {
		t.Errorf("Sum up to the sum: %d, %d, want %d", sum, e, all)
	}
	if sum, e := Sum(all-1, l...); sum != 0 || e != api.ErrNumber {
		t.Errorf("Sum up to one less: %d, %d, want ErrNumber", sum, e)
	}
}

// The chapter's examples.
func TestExamples(t *testing.T) {
	if n, e := Decimal("007", 9); n != 7 || e != api.OK {
		t.Errorf("Decimal of 007 up to 9: %d, %d", n, e)
	}
	if n, e := Decimal("10", 9); n != 0 || e != api.ErrNumber {
		t.Errorf("Decimal of 10 up to 9: %d, %d", n, e)
	}
	if n, e := Decimal("+1", 9); n != 0 || e != api.ErrForm {
		t.Errorf("Decimal of +1: %d, %d", n, e)
	}
	if s := HexText(255); s != "ff" {
		t.Errorf("HexText of 255: %q", s)
	}
}
