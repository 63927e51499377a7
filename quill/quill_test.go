package quill

import (
	"math"
	"slices"
	"strings"
	"testing"

	"doorstep/api"
)

// everyByte is a text of all 256 bytes, in order.
func everyByte() string {
	l := make([]byte, 256)
	for n := range l {
		l[n] = byte(n)
	}
	return string(l)
}

// holds tells whether a quill has a text, and room for so many bytes more, by all that asks; it asks twice, as asking takes nothing.
func holds(t *testing.T, what string, q *Quill, text string, left int) {
	t.Helper()
	for range 2 {
		if q.Text() != text || q.Len() != len(text) || q.Left() != left {
			t.Errorf("%s: %.60q, Len %d, Left %d, want %.60q, %d, %d", what, q.Text(), q.Len(), q.Left(), text, len(text), left)
		}
	}
}

// answers tells whether a call answered what it should.
func answers(t *testing.T, what string, e, want api.Errno) {
	t.Helper()
	if e != want {
		t.Errorf("%s: %d, want %d", what, e, want)
	}
}

// P4.1: a new quill has the empty text, and room for most bytes; one below 0 counts as 0.
func TestNew(t *testing.T) {
	for _, c := range []struct{ most, left int }{
		{math.MinInt, 0}, {math.MinInt + 1, 0}, {-1 << 32, 0}, {-5, 0}, {-1, 0}, {0, 0}, {1, 1}, {2, 2}, {7, 7},
		{api.MaxLine, api.MaxLine}, {api.MaxBody, api.MaxBody}, {math.MaxInt - 1, math.MaxInt - 1}, {math.MaxInt, math.MaxInt},
	} {
		q := New(c.most)
		if q == nil {
			t.Fatalf("New(%d): nil", c.most)
		}
		holds(t, "New", q, "", c.left)
		if s := q.Take(); s != "" {
			t.Errorf("New(%d), Take: %q", c.most, s)
		}
		holds(t, "Take of a new one", q, "", c.left)
	}
}

// P4.1: where most is 0 or below there is room for no byte, but for none there is.
func TestNoRoom(t *testing.T) {
	for _, most := range []int{math.MinInt, -2, -1, 0} {
		q := New(most)
		answers(t, "Put of nothing", q.Put(), api.OK)
		answers(t, "Put of empty texts", q.Put("", "", ""), api.OK)
		answers(t, "Put of a byte", q.Put("a"), api.ErrFull)
		answers(t, "Line of nothing", q.Line(), api.ErrFull)
		answers(t, "Line of an empty text", q.Line(""), api.ErrFull)
		answers(t, "Line of a byte", q.Line("a"), api.ErrFull)
		holds(t, "no room", q, "", 0)
	}
}

// P4.1: Put at its edge: all together, to the last byte, and one above it; refused, nothing is put, not even what there is room for.
func TestPut(t *testing.T) {
	for _, c := range []struct {
		most int
		l    []string
		e    api.Errno
	}{
		{3, nil, api.OK},
		{3, []string{}, api.OK},
		{3, []string{""}, api.OK},
		{3, []string{"a"}, api.OK},
		{3, []string{"abc"}, api.OK},
		{3, []string{"a", "b", "c"}, api.OK},
		{3, []string{"", "ab", "", "c", ""}, api.OK},
		{3, []string{"abcd"}, api.ErrFull},
		{3, []string{"abc", "d"}, api.ErrFull},
		{3, []string{"a", "bcd"}, api.ErrFull},
		{3, []string{"a", "b", "c", "d"}, api.ErrFull},
		{3, []string{"abcd", ""}, api.ErrFull},
		{3, []string{"abcd", "a"}, api.ErrFull},
		{3, []string{"ab", "cdef", "a"}, api.ErrFull},
		{256, []string{everyByte()}, api.OK},
		{255, []string{everyByte()}, api.ErrFull},
		{257, []string{everyByte(), "\x00"}, api.OK},
		{256, []string{everyByte(), "\x00"}, api.ErrFull},
		// Bytes are counted, and not runes.
		{2, []string{"\u00e4"}, api.OK},
		{1, []string{"\u00e4"}, api.ErrFull},
		{3, []string{"\xff\xfe", "\x80"}, api.OK},
	} {
		q := New(c.most)
		answers(t, "Put "+strings.Join(c.l, "|"), q.Put(c.l...), c.e)
		if all := strings.Join(c.l, ""); c.e == api.OK {
			holds(t, "Put "+all, q, all, c.most-len(all))
		} else {
			holds(t, "Put "+all, q, "", c.most)
		}
	}
}

// P4.1: Line at its edge: its end counts, and stands behind all of l once; refused, nothing is put, the end neither.
func TestLine(t *testing.T) {
	for _, c := range []struct {
		most int
		l    []string
		e    api.Errno
	}{
		{2, nil, api.OK},
		{2, []string{"", ""}, api.OK},
		{1, nil, api.ErrFull},
		{1, []string{""}, api.ErrFull},
		{5, []string{"abc"}, api.OK},
		{5, []string{"a", "", "bc"}, api.OK},
		{5, []string{"a"}, api.OK},
		{5, []string{"abcd"}, api.ErrFull},
		{5, []string{"abcde"}, api.ErrFull},
		{5, []string{"ab", "cd"}, api.ErrFull},
		{5, []string{"a", "b", "c", "d", "e", "f"}, api.ErrFull},
		// An end that was put already is a text like others.
		{5, []string{"a\r\n"}, api.OK},
		{4, []string{"\r\n"}, api.OK},
		{3, []string{"\r\n"}, api.ErrFull},
		{258, []string{everyByte()}, api.OK},
		{257, []string{everyByte()}, api.ErrFull},
	} {
		q := New(c.most)
		answers(t, "Line "+strings.Join(c.l, "|"), q.Line(c.l...), c.e)
		if all := strings.Join(c.l, "") + "\x0d\x0a"; c.e == api.OK {
			holds(t, "Line "+all, q, all, c.most-len(all))
		} else {
			holds(t, "Line "+all, q, "", c.most)
		}
	}
}

// P4.1: what is refused plays no part: what there is room for is put afterwards.
func TestRefusedIsAsIfNotCalled(t *testing.T) {
	q := New(6)
	answers(t, "Put", q.Put("ab"), api.OK)
	answers(t, "Put of too much", q.Put("c", "defg"), api.ErrFull)
	holds(t, "Put of too much", q, "ab", 4)
	answers(t, "Line of too much", q.Line("cde"), api.ErrFull)
	holds(t, "Line of too much", q, "ab", 4)
	answers(t, "Line", q.Line("cd"), api.OK)
	holds(t, "Line", q, "abcd\r\n", 0)
	answers(t, "Put on a full one", q.Put("e"), api.ErrFull)
	answers(t, "Line on a full one", q.Line(), api.ErrFull)
	answers(t, "Put of nothing on a full one", q.Put("", ""), api.OK)
	holds(t, "full", q, "abcd\r\n", 0)
}

// P4.1: as many texts as there are, and texts whose bytes together are far above most.
func TestPutMany(t *testing.T) {
	const n = 1 << 16
	l := slices.Repeat([]string{"a", "", "bc"}, n)
	q := New(3 * n)
	answers(t, "Put of many", q.Put(l...), api.OK)
	holds(t, "Put of many", q, strings.Repeat("abc", n), 0)
	q = New(3*n - 1)
	answers(t, "Put of one too many", q.Put(l...), api.ErrFull)
	holds(t, "Put of one too many", q, "", 3*n-1)
	// More than 2^40 bytes, of one text that is in memory once.
	big := strings.Repeat("x", api.MaxText)
	huge := slices.Repeat([]string{big}, 1<<21)
	q = New(api.MaxBody)
	answers(t, "Put of more than there may be", q.Put(huge...), api.ErrFull)
	answers(t, "Line of more than there may be", q.Line(huge...), api.ErrFull)
	holds(t, "Put of more than there may be", q, "", api.MaxBody)
}

// P4.2: Take gives the text and leaves the empty one; the room is there again.
func TestTake(t *testing.T) {
	q := New(5)
	for _, s := range []string{"a", "abcde", "", "abc", "fghij", "\x00\x00"} {
		answers(t, "Put", q.Put(s), api.OK)
		holds(t, "ahead of Take", q, s, 5-len(s))
		if got := q.Take(); got != s {
			t.Errorf("Take: %q, want %q", got, s)
		}
		holds(t, "behind Take", q, "", 5)
		if got := q.Take(); got != "" {
			t.Errorf("Take again: %q", got)
		}
	}
}

// P4.2: what was answered stays as it was, whatever is put and taken afterwards.
func TestAnswersStay(t *testing.T) {
	q, text := New(64), ""
	var got, want []string
	for n := range 200 {
		s := string([]byte{byte('a' + n%26)})
		if q.Put(s) == api.OK {
			text += s
			got, want = append(got, q.Text()), append(want, text)
			continue
		}
		got, want = append(got, q.Take()), append(want, text)
		text = ""
	}
	if !slices.Equal(got, want) {
		t.Errorf("answers: %q, want %q", got, want)
	}
}

// P4.2: all of l, in order, with sep between each two: none ahead, none behind.
func TestJoin(t *testing.T) {
	for _, c := range []struct {
		sep  string
		l    []string
		want string
	}{
		{"", nil, ""},
		{"x", nil, ""},
		{"x", []string{}, ""},
		{"x", []string{""}, ""},
		{"x", []string{"a"}, "a"},
		{"x", []string{"", ""}, "x"},
		{"x", []string{"", "", ""}, "xx"},
		{"x", []string{"a", ""}, "ax"},
		{"x", []string{"", "a"}, "xa"},
		{"", []string{"a", "", "bc"}, "abc"},
		{", ", []string{"a", "b", "c"}, "a, b, c"},
		{", ", []string{"b", "a", "b"}, "b, a, b"},
		{", ", []string{",", ", "}, ",, , "},
		{"\r\n", []string{"\x00", "\xff"}, "\x00\r\n\xff"},
	} {
		kept := slices.Clone(c.l)
		if got := Join(c.sep, c.l...); got != c.want {
			t.Errorf("Join(%q, %q): %q, want %q", c.sep, c.l, got, c.want)
		}
		if !slices.Equal(c.l, kept) {
			t.Errorf("Join(%q, %q): the list is %q", c.sep, kept, c.l)
		}
	}
}

// P4.2: every list of at most four of some texts, by every sep of some, put together by hand.
func TestJoinOfLists(t *testing.T) {
	for _, sep := range []string{"", ",", ", ", "a"} {
		for _, l := range lists([]string{"", "a", "bc", ","}, 4) {
			want := ""
			for i, s := range l {
				if i > 0 {
					want += sep
				}
				want += s
			}
			if got := Join(sep, l...); got != want {
				t.Fatalf("Join(%q, %q): %q, want %q", sep, l, got, want)
			}
		}
	}
}

// P4.3: a nil quill refuses all, even where there is nothing to be put, and answers 0 and the empty text.
func TestNil(t *testing.T) {
	var q *Quill
	for range 2 {
		for _, l := range [][]string{nil, {}, {""}, {"a"}, {"", "ab"}} {
			answers(t, "Put of a nil one", q.Put(l...), api.ErrNone)
			answers(t, "Line of a nil one", q.Line(l...), api.ErrNone)
		}
		holds(t, "a nil one", q, "", 0)
		if s := q.Take(); s != "" {
			t.Errorf("Take of a nil one: %q", s)
		}
	}
}

// P4.3: a Quill that no call made ends all the same: it has no room.
func TestZero(t *testing.T) {
	q := new(Quill)
	answers(t, "Put", q.Put("a"), api.ErrFull)
	answers(t, "Line", q.Line(), api.ErrFull)
	holds(t, "a zero one", q, "", 0)
}

// lists is every list of at most n of some things.
func lists[T any](of []T, n int) [][]T {
	all, longest := [][]T{nil}, [][]T{nil}
	for range n {
		var longer [][]T
		for _, l := range longest {
			for _, s := range of {
				longer = append(longer, append(slices.Clone(l), s))
			}
		}
		all, longest = append(all, longer...), longer
	}
	return all
}

// act is a call, and what it should do: what it puts behind the text, or that it takes all.
type act struct {
	name string
	do   func(q *Quill) (string, api.Errno)
	puts string
	take bool
}

// putting is an act that puts texts.
func putting(name, puts string, put func(q *Quill) api.Errno) act {
	return act{name: name, puts: puts, do: func(q *Quill) (string, api.Errno) { return "", put(q) }}
}

// acts is calls of each kind.
func acts() []act {
	return []act{
		putting("Put", "", func(q *Quill) api.Errno { return q.Put() }),
		putting("Put a", "a", func(q *Quill) api.Errno { return q.Put("a") }),
		putting("Put b, cd", "bcd", func(q *Quill) api.Errno { return q.Put("b", "cd") }),
		putting("Line", "\r\n", func(q *Quill) api.Errno { return q.Line() }),
		putting("Line e", "e\r\n", func(q *Quill) api.Errno { return q.Line("e") }),
		{name: "Take", take: true, do: func(q *Quill) (string, api.Errno) { return q.Take(), api.OK }},
	}
}

// P4.4: by every row of five acts, at every small most: the text is all that was put since it was taken, in order, and never longer than it may be.
func TestTextIsWhatWasPut(t *testing.T) {
	for most := range 9 {
		for _, row := range lists(acts(), 5) {
			textIsWhatWasPut(t, most, row)
			if t.Failed() {
				return
			}
		}
	}
}

func textIsWhatWasPut(t *testing.T, most int, row []act) {
	t.Helper()
	q, text, done := New(most), "", ""
	for _, a := range row {
		done += ", " + a.name
		taken, e := a.do(q)
		want, left := api.OK, ""
		switch {
		case a.take:
			left, text = text, ""
		case len(text)+len(a.puts) > most:
			want = api.ErrFull
		default:
			text += a.puts
		}
		if taken != left || e != want {
			t.Errorf("New(%d)%s: %q, %d, want %q, %d", most, done, taken, e, left, want)
		}
		if q.Len() > most {
			t.Errorf("New(%d)%s: %d bytes", most, done, q.Len())
		}
		holds(t, "by "+done, q, text, most-len(text))
	}
}

// P4.4: quills are apart from one another.
func TestQuillsAreApart(t *testing.T) {
	a, b := New(4), New(9)
	answers(t, "Put", a.Put("ab"), api.OK)
	answers(t, "Line", b.Line("xyz"), api.OK)
	answers(t, "Put", a.Put("cd"), api.OK)
	holds(t, "one", a, "abcd", 0)
	holds(t, "the other", b, "xyz\r\n", 4)
	if s := a.Take(); s != "abcd" {
		t.Errorf("Take: %q", s)
	}
	holds(t, "the other, behind Take of one", b, "xyz\r\n", 4)
}

// P1, rule 4: lists that are handed in are not changed, neither in what they hold nor in the room behind it, and not kept.
func TestListsAreNotChanged(t *testing.T) {
	for _, call := range []func(l []string){
		func(l []string) { New(99).Put(l...) },
		func(l []string) { New(99).Line(l...) },
		func(l []string) { New(0).Line(l...) },
		func(l []string) { Join(", ", l...) },
	} {
		all := []string{"a", "b", "behind", "behind it"}
		call(all[:2])
		if !slices.Equal(all, []string{"a", "b", "behind", "behind it"}) {
			t.Errorf("the list: %q", all)
		}
	}
	l := []string{"a", "b"}
	q := New(99)
	answers(t, "Put", q.Put(l...), api.OK)
	l[0] = "other"
	holds(t, "behind a change of the list", q, "ab", 97)
}

// The chapter's examples.
func TestExamples(t *testing.T) {
	q := New(5)
	answers(t, "Put ab, c", q.Put("ab", "c"), api.OK)
	holds(t, "Put ab, c", q, "abc", 2)
	answers(t, "Put def", q.Put("def"), api.ErrFull)
	holds(t, "Put def", q, "abc", 2)
	answers(t, "Line", q.Line(), api.OK)
	holds(t, "Line", q, "abc\r\n", 0)
}
