package book

import (
	"errors"
	"math"
	"slices"
	"strings"
	"testing"

	"leafbinder/api"
	"leafbinder/place"
)

const tooLong = "zzzzzzzzzzzzb"

// some is a book with a struck leaf at either end, and one that has no letter.
var some = []api.Leaf{
	{Place: "abb", Letter: 'a', Struck: true},
	{Place: "bb", Letter: 'b'},
	{Place: "hb", Letter: ' '},
	{Place: "hbb", Struck: true},
	{Place: "hc", Letter: '~'},
	{Place: "zi", Letter: 'z', Struck: true},
}

var wrongLetters = []int{31, 127, -1, 1, -32, 128, 255, 256 + 97, 1<<32 + 97, math.MinInt, math.MaxInt}

var wrongPlaces = []struct {
	p    string
	want api.Errno
}{
	{"", api.ErrSyntax},
	{"b", api.ErrSyntax},
	{"ha", api.ErrSyntax},
	{"ab", api.ErrSyntax},
	{"h\xffb", api.ErrSyntax},
	{tooLong, api.ErrFull},
	{strings.Repeat("?", 1000), api.ErrFull},
}

// many gives a book of so many leafs, none of which is struck: from bbb on.
func many(n int) []api.Leaf {
	var l []api.Leaf
	for i := range n {
		p := string([]byte{byte('b' + i/24), byte('b' + i%24), 'b'})
		l = append(l, api.Leaf{Place: p, Letter: 32 + i%95})
	}
	return l
}

// wrongBooks are lists that are no books, with what is wrong with them.
func wrongBooks() map[string]struct {
	l    []api.Leaf
	want api.Errno
} {
	type book = struct {
		l    []api.Leaf
		want api.Errno
	}
	struckOnly := api.Leaf{Place: "hb", Struck: true}
	return map[string]book{
		"301 leafs":            {many(301), api.ErrFull},
		"301 wrong leafs":      {make([]api.Leaf, 301), api.ErrFull},
		"an empty leaf":        {[]api.Leaf{{}}, api.ErrSyntax},
		"a long place":         {[]api.Leaf{{Place: tooLong, Letter: 'a'}}, api.ErrFull},
		"a place of no author": {[]api.Leaf{{Place: "ha", Letter: 'a'}}, api.ErrSyntax},
		"letter 31":            {[]api.Leaf{{Place: "hb", Letter: 31}}, api.ErrRange},
		"letter 127, struck":   {[]api.Leaf{{Place: "hb", Letter: 127, Struck: true}}, api.ErrRange},
		"no letter":            {[]api.Leaf{{Place: "hb"}}, api.ErrShape},
		"no letter at last":    {append(many(299), api.Leaf{Place: "zzb"}), api.ErrShape},
		"a place twice":        {[]api.Leaf{struckOnly, struckOnly}, api.ErrClash},
		"places that fall":     {[]api.Leaf{{Place: "hc", Letter: 'a'}, {Place: "hb", Letter: 'a'}}, api.ErrClash},
		"a beginning behind":   {[]api.Leaf{{Place: "hbb", Letter: 'a'}, {Place: "hb", Letter: 'a'}}, api.ErrClash},
		"the last ones fall":   {append(many(299), api.Leaf{Place: "abb", Letter: 'a'}), api.ErrClash},
		// Of one leaf the fault that is named first.
		"place, letter":       {[]api.Leaf{struckOnly, {Place: "ab", Letter: 31}}, api.ErrSyntax},
		"place, no letter":    {[]api.Leaf{struckOnly, {Place: "ab"}}, api.ErrSyntax},
		"letter, falls":       {[]api.Leaf{struckOnly, {Place: "bb", Letter: 127}}, api.ErrRange},
		"no letter, falls":    {[]api.Leaf{struckOnly, {Place: "bb"}}, api.ErrShape},
		"long place, falls":   {[]api.Leaf{struckOnly, {Place: strings.Repeat("b", 13), Letter: 'a'}}, api.ErrFull},
		"wrong place, falls":  {[]api.Leaf{struckOnly, {Place: "ab", Letter: 'a'}}, api.ErrSyntax},
		"wrong place, rising": {[]api.Leaf{{Place: "ab", Letter: 'a'}, {Place: "hb", Letter: 'a'}}, api.ErrSyntax},
		// Of several leafs the first that has one.
		"falls, then place":        {[]api.Leaf{struckOnly, struckOnly, {}}, api.ErrClash},
		"falls, then letter":       {[]api.Leaf{struckOnly, struckOnly, {Place: "zb", Letter: 31}}, api.ErrClash},
		"no letter, then place":    {[]api.Leaf{{Place: "hb"}, {Place: tooLong}}, api.ErrShape},
		"letter, then no letter":   {[]api.Leaf{{Place: "hb", Letter: -1}, {Place: "hc"}}, api.ErrRange},
		"no letter, then a letter": {[]api.Leaf{{Place: "hb"}, {Place: "hc", Letter: -1}}, api.ErrShape},
	}
}

func wantError(t *testing.T, err error, want api.Errno, call string, args ...any) {
	t.Helper()
	var e api.Errno
	if !errors.As(err, &e) || e != want {
		t.Errorf("%s of %v: error %v, want %v", call, args, err, want)
	}
}

func TestCheckOfBooks(t *testing.T) {
	for _, l := range [][]api.Leaf{
		nil,
		{},
		some,
		many(1),
		many(299),
		many(300),
		{{Place: "hb", Letter: 32}},
		{{Place: "hb", Letter: 126}},
		{{Place: "hb", Letter: 32, Struck: true}},
		{{Place: "hb", Letter: 126, Struck: true}},
		{{Place: "hb", Struck: true}},
		{{Place: "hb", Letter: 'a'}, {Place: "hbb", Letter: 'a'}, {Place: "hc", Letter: 'a'}},
	} {
		if err := Check(l); err != nil {
			t.Errorf("Check of %v: %v", l, err)
		}
	}
}

func TestCheckOfEachLetter(t *testing.T) {
	for letter := -300; letter <= 600; letter++ {
		for _, struck := range []bool{false, true} {
			err := Check([]api.Leaf{{Place: "hb", Letter: letter, Struck: struck}})
			switch {
			case letter >= 32 && letter <= 126 || letter == 0 && struck:
				if err != nil {
					t.Errorf("Check of letter %d, struck %v: %v", letter, struck, err)
				}
			case letter == 0:
				wantError(t, err, api.ErrShape, "Check", letter, struck)
			default:
				wantError(t, err, api.ErrRange, "Check", letter, struck)
			}
		}
	}
	for _, letter := range wrongLetters {
		wantError(t, Check([]api.Leaf{{Place: "hb", Letter: letter}}), api.ErrRange, "Check", letter)
	}
}

// wantRefused calls all that tell an error, of what all of them must refuse.
func wantRefused(t *testing.T, l []api.Leaf, p string, letter int, want api.Errno) {
	t.Helper()
	n, err := Offset(l, p)
	wantError(t, err, want, "Offset", l, p)
	written, bad := Write(l, p, letter)
	wantError(t, bad, want, "Write", l, p, letter)
	struck, no := Strike(l, p)
	wantError(t, no, want, "Strike", l, p)
	if n != 0 || len(written) != 0 || len(struck) != 0 {
		t.Errorf("of %v, %q: %d, %v, %v with an error", l, p, n, written, struck)
	}
}

func TestWrongBooksAreRefused(t *testing.T) {
	for name, c := range wrongBooks() {
		wantError(t, Check(c.l), c.want, "Check", name)
		text, err := Text(c.l)
		wantError(t, err, c.want, "Text", name)
		for _, offset := range []int{0, -1, math.MaxInt} {
			i, bad := At(c.l, offset)
			wantError(t, bad, c.want, "At", name, offset)
			if text != "" || i != 0 {
				t.Errorf("%s: %q, %d with an error", name, text, i)
			}
		}
		wantRefused(t, c.l, "hb", 'a', c.want)
		// The book's fault is told ahead of the place's, and of the letter's.
		wantRefused(t, c.l, "", 31, c.want)
		wantRefused(t, c.l, tooLong, 31, c.want)
	}
}

func TestWrongPlacesAreRefused(t *testing.T) {
	for _, l := range [][]api.Leaf{nil, some, many(300)} {
		for _, c := range wrongPlaces {
			wantRefused(t, l, c.p, 'a', c.want)
			// The place's fault is told ahead of the letter's.
			wantRefused(t, l, c.p, 31, c.want)
		}
	}
}

func TestFind(t *testing.T) {
	for _, c := range []struct {
		l  []api.Leaf
		p  string
		at int
		is bool
	}{
		{nil, "hb", 0, false},
		{nil, "", 0, false},
		{some, "aabb", 0, false},
		{some, "abb", 0, true},
		{some, "abc", 1, false},
		{some, "hb", 2, true},
		{some, "hbabb", 3, false},
		{some, "hbb", 3, true},
		{some, "hbc", 4, false},
		{some, "hc", 4, true},
		{some, "zi", 5, true},
		{some, "zib", 6, false},
		{some, "zzi", 6, false},
		// Whatever text is asked for, it has where it would be.
		{some, "", 0, false},
		{some, "h", 2, false},
		{some, "\xff", 6, false},
		{some, tooLong, 6, false},
		{many(300), "aaa", 0, false},
		{many(300), "zzz", 300, false},
	} {
		if at, is := Find(c.l, c.p); at != c.at || is != c.is {
			t.Errorf("Find(%v, %q) = %d, %v, want %d, %v", c.l, c.p, at, is, c.at, c.is)
		}
	}
	for i, leaf := range many(300) {
		if at, is := Find(many(300), leaf.Place); at != i || !is {
			t.Errorf("Find of %q = %d, %v, want %d", leaf.Place, at, is, i)
		}
		if at, is := Find(many(300), leaf.Place+"b"); at != i+1 || is {
			t.Errorf("Find of %qb = %d, %v, want %d", leaf.Place, at, is, i+1)
		}
	}
}

// TestFindInWrongBooks: where it would be is not promised there, an end is.
func TestFindInWrongBooks(t *testing.T) {
	for name, c := range wrongBooks() {
		for _, p := range []string{"", "abb", "hb", "zzi", "\xff"} {
			at, is := Find(c.l, p)
			if at < 0 || at > len(c.l) {
				t.Errorf("%s: Find of %q = %d", name, p, at)
			}
			if again, same := Find(c.l, p); again != at || same != is {
				t.Errorf("%s: Find of %q = %d, %v, then %d, %v", name, p, at, is, again, same)
			}
		}
	}
}

func TestText(t *testing.T) {
	var full []byte
	for i := range 300 {
		full = append(full, byte(32+i%95))
	}
	for _, c := range []struct {
		l    []api.Leaf
		want string
	}{
		{nil, ""},
		{some, "b ~"},
		{some[:1], ""},
		{[]api.Leaf{{Place: "hb", Struck: true}}, ""},
		{[]api.Leaf{{Place: "hb", Letter: 32}, {Place: "hc", Letter: 126}}, " ~"},
		{many(300), string(full)},
	} {
		if text, err := Text(c.l); text != c.want || err != nil {
			t.Errorf("Text(%v) = %q, %v, want %q", c.l, text, err, c.want)
		}
	}
}

func TestAt(t *testing.T) {
	for offset, want := range []int{1, 2, 4} {
		if i, err := At(some, offset); i != want || err != nil {
			t.Errorf("At(some, %d) = %d, %v, want %d", offset, i, err, want)
		}
	}
	for i := range 300 {
		if got, err := At(many(300), i); got != i || err != nil {
			t.Errorf("At %d of 300 = %d, %v", i, got, err)
		}
	}
	for _, c := range []struct {
		l      []api.Leaf
		offset int
	}{
		{nil, 0},
		{nil, -1},
		{some, -1},
		{some, 3},
		{some, len(some)},
		{some[:1], 0},
		{some[3:4], 0},
		{many(300), 300},
		{some, math.MinInt},
		{some, math.MaxInt},
	} {
		i, err := At(c.l, c.offset)
		wantError(t, err, api.ErrRange, "At", c.l, c.offset)
		if i != 0 {
			t.Errorf("At(%v, %d) = %d with an error", c.l, c.offset, i)
		}
	}
}

func TestOffset(t *testing.T) {
	for _, c := range []struct {
		l    []api.Leaf
		p    string
		want int
	}{
		{nil, "hb", 0},
		{some, "aabb", 0}, // ahead of all
		{some, "abb", 0},
		{some, "acb", 0}, // a struck one is ahead
		{some, "bb", 0},
		{some, "cb", 1}, // between two
		{some, "hb", 1},
		{some, "hbabb", 2},
		{some, "hbb", 2},
		{some, "hbc", 2}, // one that has no letter is ahead
		{some, "hc", 2},
		{some, "hd", 3},
		{some, "zi", 3},
		{some, "zzi", 3}, // behind all
		{many(300), "abb", 0},
		{many(300), "zzb", 300},
	} {
		if n, err := Offset(c.l, c.p); n != c.want || err != nil {
			t.Errorf("Offset(%v, %q) = %d, %v, want %d", c.l, c.p, n, err, c.want)
		}
	}
}

// TestOffsetTurnsAt: the leaf that is seen at an offset has it.
func TestOffsetTurnsAt(t *testing.T) {
	l := many(300)
	for i := range l {
		l[i].Struck = i%3 == 0
		if i%6 == 0 {
			l[i].Letter = 0
		}
	}
	text, _ := Text(l)
	if len(text) != 200 {
		t.Fatalf("%d letters are seen", len(text))
	}
	for offset := range len(text) {
		i, err := At(l, offset)
		if err != nil || l[i].Struck || byte(l[i].Letter) != text[offset] {
			t.Fatalf("At %d = %d, %v", offset, i, err)
		}
		if back, err := Offset(l, l[i].Place); back != offset || err != nil {
			t.Fatalf("Offset of %q = %d, %v, want %d", l[i].Place, back, err, offset)
		}
	}
}

// replaced gives a book with one leaf in the stead of another one.
func replaced(l []api.Leaf, i int, leaf api.Leaf) []api.Leaf {
	more := append([]api.Leaf{}, l[:i]...)
	return append(append(more, leaf), l[i+1:]...)
}

// inserted gives a book with one leaf more.
func inserted(l []api.Leaf, i int, leaf api.Leaf) []api.Leaf {
	more := append([]api.Leaf{}, l[:i]...)
	return append(append(more, leaf), l[i:]...)
}

func TestWrite(t *testing.T) {
	full := replaced(many(300), 7, api.Leaf{Place: many(300)[7].Place, Struck: true})
	for _, c := range []struct {
		l      []api.Leaf
		p      string
		letter int
		want   []api.Leaf
	}{
		{nil, "hb", 'x', []api.Leaf{{Place: "hb", Letter: 'x'}}},
		{nil, "hb", 32, []api.Leaf{{Place: "hb", Letter: 32}}},
		{nil, "hb", 126, []api.Leaf{{Place: "hb", Letter: 126}}},
		{some, "aabb", 'x', inserted(some, 0, api.Leaf{Place: "aabb", Letter: 'x'})},
		{some, "hbc", 'x', inserted(some, 4, api.Leaf{Place: "hbc", Letter: 'x'})},
		{some, "zzi", 'x', inserted(some, 6, api.Leaf{Place: "zzi", Letter: 'x'})},
		// Struck first, written then: struck still.
		{some, "hbb", 'x', replaced(some, 3, api.Leaf{Place: "hbb", Letter: 'x', Struck: true})},
		// The same letter, struck or not.
		{some, "bb", 'b', some},
		{some, "hb", ' ', some},
		{some, "hc", '~', some},
		{some, "abb", 'a', some},
		{some, "zi", 'z', some},
		{many(299), "zzb", 'x', append(many(299), api.Leaf{Place: "zzb", Letter: 'x'})},
		// A full book has no room for one more, but for a letter.
		{full, full[7].Place, 'x', replaced(full, 7, api.Leaf{Place: full[7].Place, Letter: 'x', Struck: true})},
		{full, full[8].Place, full[8].Letter, full},
	} {
		if l, err := Write(c.l, c.p, c.letter); !slices.Equal(l, c.want) || err != nil {
			t.Errorf("Write(%v, %q, %d) = %v, %v, want %v", c.l, c.p, c.letter, l, err, c.want)
		}
	}
}

func TestErrorsOfWrite(t *testing.T) {
	type call struct {
		l      []api.Leaf
		p      string
		letter int
		want   api.Errno
	}
	calls := []call{
		{some, "bb", 'x', api.ErrClash},
		{some, "hb", '!', api.ErrClash},
		{some, "hc", '}', api.ErrClash},
		{some, "abb", 'x', api.ErrClash}, // struck, but it has a letter
		{many(300), "bbb", 33, api.ErrClash},
		{many(300), "abb", 'x', api.ErrFull},
		{many(300), "bbbb", 'x', api.ErrFull},
		{many(300), "zzb", 'x', api.ErrFull},
	}
	for _, letter := range append(slices.Clone(wrongLetters), 0) {
		calls = append(calls,
			call{nil, "hb", letter, api.ErrRange},
			call{some, "bb", letter, api.ErrRange},
			call{some, "hbb", letter, api.ErrRange},
			call{many(300), "zzb", letter, api.ErrRange})
	}
	for _, c := range calls {
		l, err := Write(c.l, c.p, c.letter)
		wantError(t, err, c.want, "Write", c.l, c.p, c.letter)
		if len(l) != 0 {
			t.Errorf("Write(%v, %q, %d) = %v with an error", c.l, c.p, c.letter, l)
		}
	}
}

func TestStrike(t *testing.T) {
	full := many(300)
	for _, c := range []struct {
		l    []api.Leaf
		p    string
		want []api.Leaf
	}{
		{nil, "hb", []api.Leaf{{Place: "hb", Struck: true}}},
		{some, "bb", replaced(some, 1, api.Leaf{Place: "bb", Letter: 'b', Struck: true})},
		{some, "hc", replaced(some, 4, api.Leaf{Place: "hc", Letter: '~', Struck: true})},
		{some, "abb", some},
		{some, "hbb", some},
		{some, "zi", some},
		{some, "aabb", inserted(some, 0, api.Leaf{Place: "aabb", Struck: true})},
		{some, "hbc", inserted(some, 4, api.Leaf{Place: "hbc", Struck: true})},
		{some, "zzi", inserted(some, 6, api.Leaf{Place: "zzi", Struck: true})},
		{many(299), "zzb", append(many(299), api.Leaf{Place: "zzb", Struck: true})},
		{full, "bbb", replaced(full, 0, api.Leaf{Place: "bbb", Letter: 32, Struck: true})},
		{full, full[299].Place, replaced(full, 299, api.Leaf{Place: full[299].Place, Letter: full[299].Letter, Struck: true})},
	} {
		if l, err := Strike(c.l, c.p); !slices.Equal(l, c.want) || err != nil {
			t.Errorf("Strike(%v, %q) = %v, %v, want %v", c.l, c.p, l, err, c.want)
		}
	}
	for _, p := range []string{"abb", "bbbb", "zzb"} {
		l, err := Strike(full, p)
		wantError(t, err, api.ErrFull, "Strike", "a full book", p)
		if len(l) != 0 {
			t.Errorf("Strike of %q in a full book = %v with an error", p, l)
		}
	}
}

// model is a book as a map, with a leaf a place.
type model map[string]api.Leaf

func (m model) leafs() []api.Leaf {
	var l []api.Leaf
	for _, leaf := range m {
		l = append(l, leaf)
	}
	slices.SortFunc(l, func(a, b api.Leaf) int { return strings.Compare(a.Place, b.Place) })
	return l
}

// TestLongPlay writes and strikes at many places, in an order that jumps, till
// the book is full and on, and holds the book to a map.
func TestLongPlay(t *testing.T) {
	var l []api.Leaf
	m := model{}
	number := uint32(1)
	next := func(below int) int {
		number = number*1664525 + 1013904223
		return int(number>>8) % below
	}
	told := map[api.Errno]int{}
	for range 6000 {
		p := string([]byte{byte('b' + next(20)), byte('b' + next(8)), byte('b' + next(8))})[next(2):]
		old, is := m[p]
		letter := 'a' + next(3)
		var got []api.Leaf
		var err error
		want := api.OK
		leaf := api.Leaf{Place: p, Letter: old.Letter, Struck: true}
		if next(4) == 0 {
			got, err = Strike(l, p)
		} else {
			got, err = Write(l, p, letter)
			leaf = api.Leaf{Place: p, Letter: letter, Struck: old.Struck}
			if old.Letter != 0 && old.Letter != letter {
				want = api.ErrClash
			}
		}
		if !is && len(m) == api.MaxLeafs {
			want = api.ErrFull
		}
		told[want]++
		if want != api.OK {
			wantError(t, err, want, "a call at", p)
			continue
		}
		m[p] = leaf
		if l = got; err != nil || !slices.Equal(l, m.leafs()) || Check(l) != nil {
			t.Fatalf("at %q: %v, %v, want %v", p, l, err, m.leafs())
		}
	}
	if len(l) != api.MaxLeafs || told[api.OK] < 1000 || told[api.ErrClash] < 100 || told[api.ErrFull] < 100 {
		t.Errorf("%d leafs, told %v", len(l), told)
	}
}

// TestWriteAndStrikeInEitherOrder: the book is the same then.
func TestWriteAndStrikeInEitherOrder(t *testing.T) {
	for _, p := range []string{"aabb", "hbb", "hbc", "bb", "zzi"} {
		letter := 'x'
		if p == "bb" {
			letter = 'b'
		}
		written, _ := Write(some, p, int(letter))
		a, err := Strike(written, p)
		struck, _ := Strike(some, p)
		b, bad := Write(struck, p, int(letter))
		if err != nil || bad != nil || !slices.Equal(a, b) {
			t.Errorf("at %q: %v, %v and %v, %v", p, a, err, b, bad)
		}
		i, is := Find(a, p)
		if !is || !a[i].Struck || a[i].Letter != int(letter) {
			t.Errorf("at %q: %v", p, a)
		}
	}
}

// TestABookByPlacesBetween: what is written between stands between.
func TestABookByPlacesBetween(t *testing.T) {
	var l []api.Leaf
	ahead := ""
	for _, letter := range "what is written is there" {
		p, err := place.Between(ahead, "", 3)
		if err != nil {
			t.Fatal(err)
		}
		if l, err = Write(l, p, int(letter)); err != nil {
			t.Fatal(err)
		}
		ahead = p
	}
	p, _ := place.Between(l[3].Place, l[4].Place, 5)
	l, err := Write(l, p, '!')
	text, bad := Text(l)
	if text != "what! is written is there" || err != nil || bad != nil {
		t.Errorf("Text = %q, %v, %v", text, err, bad)
	}
}

func TestNothingHandedInIsWrittenIntoOrShared(t *testing.T) {
	// Behind the length of the list lies room, with something in it.
	behind := api.Leaf{Place: "behind", Letter: 77}
	whole := append(slices.Clone(some), behind, behind, behind)
	kept := slices.Clone(whole)
	l := whole[:len(some)]
	for _, p := range []string{"aabb", "bb", "hb", "hbb", "hbc", "zi", "zzi"} {
		Check(l)
		Find(l, p)
		Text(l)
		At(l, 1)
		Offset(l, p)
		a, _ := Write(l, p, 'b')
		b, _ := Strike(l, p)
		c, _ := Strike(l, p)
		want := slices.Clone(c)
		for _, out := range [][]api.Leaf{a, b} {
			out = out[:cap(out)]
			for i := range out {
				out[i] = api.Leaf{Place: "over", Letter: 5555}
			}
		}
		if !slices.Equal(whole, kept) {
			t.Fatalf("at %q what was handed in is now %v", p, whole)
		}
		if !slices.Equal(c, want) {
			t.Fatalf("at %q what came out before is now %v", p, c)
		}
	}
}
