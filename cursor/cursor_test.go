package cursor

import (
	"errors"
	"math"
	"math/rand"
	"slices"
	"strings"
	"testing"

	"leafbinder/api"
	"leafbinder/book"
	"leafbinder/place"
)

const tooLong = "zzzzzzzzzzzzb"

// some is a book of which `abcde` is seen; it has a struck leaf at either end,
// one between, and one that is not written yet.
var some = []api.Leaf{
	{Place: "bb", Letter: 'x', Struck: true},
	{Place: "db", Letter: 'a'},
	{Place: "hb", Letter: 'b'},
	{Place: "hbb", Struck: true},
	{Place: "hc", Letter: 'c'},
	{Place: "mb", Letter: 'y', Struck: true},
	{Place: "qb", Letter: 'd'},
	{Place: "qi", Letter: 'e'},
	{Place: "tb", Letter: 'z', Struck: true},
}

// offsets of cursors in some: at each of its leafs, and where none is.
var offsets = []struct {
	p    string
	want int
}{
	// of leafs that are seen
	{"db", 0}, {"hb", 1}, {"hc", 2}, {"qb", 3}, {"qi", 4},
	// of leafs that are struck, or not written yet
	{"bb", 0}, {"hbb", 2}, {"mb", 3}, {"tb", 5},
	// of none: ahead of all, between two, behind all
	{"aaaaaaaaaabb", 0}, {"abb", 0}, {"bc", 0}, {"dazi", 0},
	{"dbb", 1}, {"dc", 1}, {"gzi", 1}, {"hazi", 1},
	{"hbabb", 2}, {"hbc", 2}, {"hbzi", 2},
	{"hcb", 3}, {"hd", 3}, {"mc", 3}, {"qaaibb", 3},
	{"qbb", 4}, {"qh", 4}, {"qibb", 5}, {"rb", 5}, {"tc", 5}, {"zzzzzzzzzzzi", 5},
	{"", 5},
}

// unseen are books of which nothing is seen.
var unseen = map[string][]api.Leaf{
	"nil":               nil,
	"empty":             {},
	"all struck":        {{Place: "db", Letter: 'a', Struck: true}, {Place: "hb", Letter: 'b', Struck: true}},
	"no letter yet":     {{Place: "db", Struck: true}, {Place: "hb", Struck: true}},
	"one of either":     {{Place: "db", Letter: 'a', Struck: true}, {Place: "hb", Struck: true}},
	"one, at the first": {{Place: "aaaaaaaaaabb", Struck: true}},
}

// wrongPlaces hold no cursor; the empty one does.
var wrongPlaces = []struct {
	p    string
	want api.Errno
}{
	{"b", api.ErrSyntax},
	{"h", api.ErrSyntax},
	{"ha", api.ErrSyntax},
	{"hj", api.ErrSyntax},
	{"ab", api.ErrSyntax},
	{"hab", api.ErrSyntax},
	{"h b", api.ErrSyntax},
	{" hb", api.ErrSyntax},
	{"hb ", api.ErrSyntax},
	{"Hb", api.ErrSyntax},
	{"hB", api.ErrSyntax},
	{"h{b", api.ErrSyntax},
	{"h`b", api.ErrSyntax},
	{"h1b", api.ErrSyntax},
	{"h\x00b", api.ErrSyntax},
	{"h\xffb", api.ErrSyntax},
	{"\x00", api.ErrSyntax},
	{tooLong, api.ErrFull},
	{strings.Repeat("h", 12) + "a", api.ErrFull},
	{strings.Repeat("?", 1000), api.ErrFull},
}

// farOffsets are none of any book.
var farOffsets = []int{-1, -2, -300, math.MinInt, math.MinInt + 1, api.MaxLeafs + 1, 1 << 32, 1<<32 + 1, math.MaxInt, math.MaxInt - 1}

// many gives a book of so many leafs, all of which are seen: from bbb on.
func many(n int) []api.Leaf {
	var l []api.Leaf
	for i := range n {
		p := string([]byte{byte('b' + i/24), byte('b' + i%24), 'b'})
		l = append(l, api.Leaf{Place: p, Letter: 32 + i%95})
	}
	return l
}

// wrongBooks are lists that are no books, with what is wrong with them.
func wrongBooks() map[string]struct {
	l    []api.Leaf
	want api.Errno
} {
	type wrong = struct {
		l    []api.Leaf
		want api.Errno
	}
	seen := api.Leaf{Place: "hb", Letter: 'a'}
	return map[string]wrong{
		"301 leafs":            {many(301), api.ErrFull},
		"301 wrong leafs":      {make([]api.Leaf, 301), api.ErrFull},
		"an empty leaf":        {[]api.Leaf{{}}, api.ErrSyntax},
		"a long place":         {[]api.Leaf{{Place: tooLong, Letter: 'a'}}, api.ErrFull},
		"a place of no author": {[]api.Leaf{seen, {Place: "ma", Letter: 'a'}}, api.ErrSyntax},
		"an a ahead of it":     {[]api.Leaf{seen, {Place: "mab", Letter: 'a'}}, api.ErrSyntax},
		"letter 31":            {[]api.Leaf{seen, {Place: "mb", Letter: 31}}, api.ErrRange},
		"letter 127, struck":   {[]api.Leaf{seen, {Place: "mb", Letter: 127, Struck: true}}, api.ErrRange},
		"letter -1":            {[]api.Leaf{{Place: "mb", Letter: -1}}, api.ErrRange},
		"no letter":            {[]api.Leaf{seen, {Place: "mb"}}, api.ErrShape},
		"no letter at last":    {append(many(299), api.Leaf{Place: "zzb"}), api.ErrShape},
		"a place twice":        {[]api.Leaf{seen, seen}, api.ErrClash},
		"places that fall":     {[]api.Leaf{{Place: "hc", Letter: 'a'}, seen}, api.ErrClash},
		"a beginning behind":   {[]api.Leaf{{Place: "hbb", Letter: 'a'}, seen}, api.ErrClash},
		"the last ones fall":   {append(many(299), api.Leaf{Place: "abb", Letter: 'a'}), api.ErrClash},
		// Of one leaf the fault that is named first, of several leafs the first one's.
		"place, letter":         {[]api.Leaf{seen, {Place: "ab", Letter: 31}}, api.ErrSyntax},
		"letter, falls":         {[]api.Leaf{seen, {Place: "bb", Letter: 127}}, api.ErrRange},
		"no letter, falls":      {[]api.Leaf{seen, {Place: "bb"}}, api.ErrShape},
		"falls, then place":     {[]api.Leaf{seen, seen, {}}, api.ErrClash},
		"no letter, then place": {[]api.Leaf{{Place: "hb"}, {Place: tooLong}}, api.ErrShape},
	}
}

func wantError(t *testing.T, err error, want api.Errno, call string, args ...any) {
	t.Helper()
	var e api.Errno
	if !errors.As(err, &e) || e != want {
		t.Errorf("%s of %v: error %v, want %v", call, args, err, want)
	}
}

func wantAnchor(t *testing.T, l []api.Leaf, offset int, want string) {
	t.Helper()
	if got, err := Anchor(l, offset); got != want || err != nil {
		t.Errorf("Anchor of %v, %d: got %q, %v, want %q", l, offset, got, err, want)
	}
}

func wantOffset(t *testing.T, l []api.Leaf, p string, want int) {
	t.Helper()
	if got, err := Resolve(l, p); got != want || err != nil {
		t.Errorf("Resolve of %v, %q: got %d, %v, want %d", l, p, got, err, want)
	}
}

func wantLetters(t *testing.T, l []api.Leaf, from, to, want string) {
	t.Helper()
	if got, err := Range(l, from, to); got != want || err != nil {
		t.Errorf("Range of %v, %q, %q: got %q, %v, want %q", l, from, to, got, err, want)
	}
}

func wantNoAnchor(t *testing.T, l []api.Leaf, offset int, want api.Errno) {
	t.Helper()
	got, err := Anchor(l, offset)
	wantError(t, err, want, "Anchor", l, offset)
	if got != "" {
		t.Errorf("Anchor of %v, %d: %q with an error", l, offset, got)
	}
}

func wantNoOffset(t *testing.T, l []api.Leaf, p string, want api.Errno) {
	t.Helper()
	got, err := Resolve(l, p)
	wantError(t, err, want, "Resolve", l, p)
	if got != 0 {
		t.Errorf("Resolve of %v, %q: %d with an error", l, p, got)
	}
}

func wantNoLetters(t *testing.T, l []api.Leaf, from, to string, want api.Errno) {
	t.Helper()
	got, err := Range(l, from, to)
	wantError(t, err, want, "Range", l, from, to)
	if got != "" {
		t.Errorf("Range of %v, %q, %q: %q with an error", l, from, to, got)
	}
}

func TestAnchor(t *testing.T) {
	for offset, want := range []string{"db", "hb", "hc", "qb", "qi", ""} {
		wantAnchor(t, some, offset, want)
	}
	for _, offset := range append([]int{6, 7, 8, 9, 10}, farOffsets...) {
		wantNoAnchor(t, some, offset, api.ErrRange)
	}
}

func TestAnchorWhereAllIsSeen(t *testing.T) {
	for _, n := range []int{1, 2, 299, 300} {
		l := many(n)
		for offset, leaf := range l {
			wantAnchor(t, l, offset, leaf.Place)
		}
		wantAnchor(t, l, n, "")
		for _, offset := range append([]int{n + 1, n + 2}, farOffsets...) {
			wantNoAnchor(t, l, offset, api.ErrRange)
		}
	}
}

func TestWhereNothingIsSeen(t *testing.T) {
	for name, l := range unseen {
		t.Run(name, func(t *testing.T) {
			wantAnchor(t, l, 0, "")
			for _, offset := range append([]int{1, 2, 3}, farOffsets...) {
				wantNoAnchor(t, l, offset, api.ErrRange)
			}
			cursors := []string{"", "aaaaaaaaaabb", "bb", "db", "dc", "hb", "hbb", "zi"}
			for _, from := range cursors {
				wantOffset(t, l, from, 0)
				for _, to := range cursors {
					// All stand at 0, so none is ahead of another one.
					wantLetters(t, l, from, to, "")
				}
			}
		})
	}
}

func TestResolve(t *testing.T) {
	for _, c := range offsets {
		wantOffset(t, some, c.p, c.want)
	}
}

func TestResolveWhereAllIsSeen(t *testing.T) {
	for _, n := range []int{1, 2, 299, 300} {
		l := many(n)
		for i, leaf := range l {
			wantOffset(t, l, leaf.Place, i)
		}
		wantOffset(t, l, "abb", 0)
		wantOffset(t, l, "zzb", n)
		wantOffset(t, l, "", n)
	}
}

func TestRange(t *testing.T) {
	for _, c := range []struct{ from, to, want string }{
		{"db", "", "abcde"}, // from the first to behind the last
		{"db", "tb", "abcde"},
		{"bb", "", "abcde"},
		{"abb", "zi", "abcde"},
		{"db", "qi", "abcd"}, // the one at the end is not told
		{"db", "hb", "a"},
		{"hb", "hc", "b"},
		{"hb", "hbb", "b"}, // up to one that is not written yet
		{"hbb", "hc", ""},
		{"hbb", "mb", "c"}, // from struck to struck
		{"mb", "qb", ""},
		{"mb", "tb", "de"},
		{"dc", "hcb", "bc"}, // where none is
		{"qi", "", "e"},
		{"qibb", "", ""},
		{"tb", "", ""},
		{"zi", "", ""},
		{"", "tb", ""}, // none is seen from there on, so it isn't ahead
		{"", "qibb", ""},
		{"", "zi", ""},
		{"", "", ""},
		{"mb", "hd", ""}, // its place is ahead, but not its offset
		{"bb", "abb", ""},
		{"zi", "tb", ""},
	} {
		wantLetters(t, some, c.from, c.to, c.want)
	}
}

func TestRangeToOneAhead(t *testing.T) {
	for _, c := range []struct{ from, to string }{
		{"", "qi"},
		{"", "bb"},
		{"", "abb"},
		{"qi", "qb"},
		{"hb", "db"},
		{"hbb", "hb"},
		{"zi", "qi"},
		{"tb", "mb"},
		{"hd", "hbc"},
	} {
		wantNoLetters(t, some, c.from, c.to, api.ErrShape)
	}
	wantNoLetters(t, many(1), "", "bbb", api.ErrShape)
	wantNoLetters(t, many(300), "", many(300)[299].Place, api.ErrShape)
}

func TestRangeOfEachTwo(t *testing.T) {
	for _, a := range offsets {
		wantLetters(t, some, a.p, a.p, "")
		for _, b := range offsets {
			if a.want <= b.want {
				wantLetters(t, some, a.p, b.p, "abcde"[a.want:b.want])
			} else {
				wantNoLetters(t, some, a.p, b.p, api.ErrShape)
			}
		}
	}
}

func TestRangeOfAFullBook(t *testing.T) {
	l := many(300)
	text, err := book.Text(l)
	if err != nil {
		t.Fatal(err)
	}
	wantLetters(t, l, "bbb", "", text)
	wantLetters(t, l, "abb", "zzi", text)
	wantLetters(t, l, l[1].Place, l[299].Place, text[1:299])
	wantLetters(t, l, l[299].Place, "", text[299:])
}

func TestWrongBooksAreRefused(t *testing.T) {
	for name, c := range wrongBooks() {
		t.Run(name, func(t *testing.T) {
			for _, offset := range append([]int{0, 1, 2, 300}, farOffsets...) {
				// The book's fault is told ahead of the offset's.
				wantNoAnchor(t, c.l, offset, c.want)
			}
			// And ahead of either place's, and of their order's.
			places := []string{"", "bb", "hb", "zi", "ha", "b", tooLong}
			for _, from := range places {
				wantNoOffset(t, c.l, from, c.want)
				for _, to := range places {
					wantNoLetters(t, c.l, from, to, c.want)
				}
			}
		})
	}
}

func TestWrongPlacesAreRefused(t *testing.T) {
	for _, l := range [][]api.Leaf{nil, some, many(300), unseen["all struck"]} {
		for _, c := range wrongPlaces {
			wantNoOffset(t, l, c.p, c.want)
			for _, right := range []string{"", "abb", "hb", "zi"} {
				wantNoLetters(t, l, c.p, right, c.want)
				// Also where it would stand ahead of the one that is right.
				wantNoLetters(t, l, right, c.p, c.want)
			}
			for _, next := range wrongPlaces {
				wantNoLetters(t, l, c.p, next.p, c.want)
			}
		}
	}
}

// wantKept: a call leaves what it was given as it was, also behind its length.
func wantKept(t *testing.T, l []api.Leaf, call func(l []api.Leaf)) {
	t.Helper()
	behind := api.Leaf{Place: "zzzb", Letter: 'q'}
	whole := append(slices.Clone(l), behind, behind)
	ahead := slices.Clone(whole)
	call(whole[:len(l)])
	if !slices.Equal(whole, ahead) {
		t.Errorf("given %v, it is %v behind the call", ahead, whole)
	}
}

func TestWhatIsGivenIsNotChanged(t *testing.T) {
	books := [][]api.Leaf{nil, some, many(299), many(300), many(301), unseen["one of either"]}
	for _, c := range wrongBooks() {
		books = append(books, c.l)
	}
	for _, l := range books {
		for _, offset := range []int{0, 2, 5, 6, -1, math.MaxInt} {
			wantKept(t, l, func(l []api.Leaf) { Anchor(l, offset) })
		}
		for _, from := range []string{"", "bb", "hb", "hd", "zi", "ha", tooLong} {
			wantKept(t, l, func(l []api.Leaf) { Resolve(l, from) })
			for _, to := range []string{"", "hb", "tb", "ha"} {
				wantKept(t, l, func(l []api.Leaf) { Range(l, from, to) })
			}
		}
	}
}

// What is behind a list's length is no part of the book.
func TestBehindTheLengthNothingIsRead(t *testing.T) {
	for n := range some {
		short := slices.Clone(some[:n])
		for offset := -1; offset <= 6; offset++ {
			got, err := Anchor(some[:n], offset)
			want, bad := Anchor(short, offset)
			if got != want || err != bad {
				t.Errorf("Anchor of %d leafs, %d: %q, %v, want %q, %v", n, offset, got, err, want, bad)
			}
		}
		seen, _ := book.Text(short)
		wantOffset(t, some[:n], "", len(seen))
		wantOffset(t, some[:n], "zi", len(seen))
		wantLetters(t, some[:n], "abb", "", seen)
	}
}

// What was answered stays, whatever becomes of the list that was given.
func TestNothingIsKept(t *testing.T) {
	l := slices.Clone(some)
	p, _ := Anchor(l, 1)
	text, _ := Range(l, "db", "")
	for i := range l {
		l[i] = api.Leaf{Place: "zb", Struck: true}
	}
	if p != "hb" || text != "abcde" {
		t.Errorf("behind a change of the list: %q, %q", p, text)
	}
	wantNoAnchor(t, l, 1, api.ErrClash)
	wantOffset(t, l[:1], "", 0)
	wantAnchor(t, some, 1, "hb")
	wantOffset(t, some, "", 5)
}

// A cursor stays with its letter, whatever is written and struck around it, and
// stands where the letter was when it is struck.
func TestACursorStaysWithItsLetter(t *testing.T) {
	l := some
	p, err := Anchor(l, 3) // at d
	if err != nil {
		t.Fatal(err)
	}
	change := func(text string, offset int, changed []api.Leaf, err error) {
		t.Helper()
		if err != nil {
			t.Fatal(err)
		}
		l = changed
		wantLetters(t, l, "abb", "", text)
		wantOffset(t, l, p, offset)
	}
	changed, err := book.Write(l, "cb", '1')
	change("1abcde", 4, changed, err)
	changed, err = book.Write(l, "qc", '2')
	change("1abcd2e", 4, changed, err)
	changed, err = book.Write(l, "pb", '3') // just ahead of it
	change("1abc3d2e", 5, changed, err)
	changed, err = book.Strike(l, "hb")
	change("1ac3d2e", 4, changed, err)
	changed, err = book.Write(l, "hbb", '4') // struck ahead of being written
	change("1ac3d2e", 4, changed, err)
	changed, err = book.Strike(l, "qb")
	change("1ac32e", 4, changed, err)
	wantAnchor(t, l, 4, "qc")
	changed, err = book.Strike(l, "qi")
	change("1ac32", 4, changed, err)
	changed, err = book.Strike(l, "qc")
	change("1ac3", 4, changed, err)
	wantAnchor(t, l, 4, "")
}

// model tells leafs by their places.
type model map[string]api.Leaf

// places of those that are seen, in order.
func (m model) places() []string {
	var l []string
	for p, leaf := range m {
		if leaf.Letter != 0 && !leaf.Struck {
			l = append(l, p)
		}
	}
	slices.Sort(l)
	return l
}

// offset of a cursor, told one by one.
func (m model) offset(p string) int {
	n := 0
	for _, q := range m.places() {
		if p == "" || q < p {
			n++
		}
	}
	return n
}

// letters from one cursor to ahead of another one.
func (m model) letters(from, to string) string {
	var text []byte
	for _, q := range m.places() {
		if from != "" && q >= from && (to == "" || q < to) {
			text = append(text, byte(m[q].Letter))
		}
	}
	return string(text)
}

func (m model) book() []api.Leaf {
	var l []api.Leaf
	for _, leaf := range m {
		l = append(l, leaf)
	}
	slices.SortFunc(l, func(a, b api.Leaf) int { return strings.Compare(a.Place, b.Place) })
	return l
}

// anyPlace gives a place of few letters, so that places meet often.
func anyPlace(r *rand.Rand) string {
	p := make([]byte, r.Intn(3))
	for i := range p {
		p[i] = "abmz"[r.Intn(4)]
	}
	return string(append(p, "bmz"[r.Intn(3)], "bci"[r.Intn(3)]))
}

func anyCursor(r *rand.Rand) string {
	if r.Intn(6) == 0 {
		return ""
	}
	return anyPlace(r)
}

func anyModel(r *rand.Rand) model {
	m := model{}
	for range r.Intn(25) {
		leaf := api.Leaf{Place: anyPlace(r), Letter: 32 + r.Intn(95), Struck: r.Intn(3) == 0}
		if leaf.Struck && r.Intn(2) == 0 {
			leaf.Letter = 0
		}
		m[leaf.Place] = leaf
	}
	return m
}

func TestAgainstAMapOfLeafs(t *testing.T) {
	r := rand.New(rand.NewSource(9))
	for range 3000 {
		m := anyModel(r)
		l, places := m.book(), m.places()
		for offset, p := range places {
			wantAnchor(t, l, offset, p)
			wantOffset(t, l, p, offset)
		}
		wantAnchor(t, l, len(places), "")
		wantNoAnchor(t, l, len(places)+1, api.ErrRange)
		wantNoAnchor(t, l, -1, api.ErrRange)
		for range 10 {
			from, to := anyCursor(r), anyCursor(r)
			wantOffset(t, l, from, m.offset(from))
			if m.offset(to) < m.offset(from) {
				wantNoLetters(t, l, from, to, api.ErrShape)
			} else {
				wantLetters(t, l, from, to, m.letters(from, to))
			}
		}
	}
}

// There and back: an offset's cursor is at it, and between two of them is what
// is between the offsets.
func TestAnchorThenResolve(t *testing.T) {
	for _, l := range [][]api.Leaf{nil, some, many(1), many(40), unseen["one of either"]} {
		text, _ := book.Text(l)
		for i := range len(text) + 1 {
			from, err := Anchor(l, i)
			if err != nil || from != "" && place.Check(from) != nil {
				t.Errorf("Anchor of %v, %d: %q, %v", l, i, from, err)
			}
			wantOffset(t, l, from, i)
			for j := i; j <= len(text); j++ {
				to, _ := Anchor(l, j)
				wantLetters(t, l, from, to, text[i:j])
			}
		}
	}
}

// Whatever texts come, each call ends, and tells an error of the program's or none.
func TestAnythingGoes(t *testing.T) {
	r := rand.New(rand.NewSource(99))
	anyText := func() string {
		p := make([]byte, r.Intn(15))
		for i := range p {
			p[i] = byte(r.Intn(256))
		}
		return string(p)
	}
	known := func(err error) {
		var e api.Errno
		if err != nil && (!errors.As(err, &e) || e == api.OK) {
			t.Errorf("an error that is none of the program's: %v", err)
		}
	}
	for range 2000 {
		l := make([]api.Leaf, r.Intn(4))
		for i := range l {
			l[i] = api.Leaf{Place: anyPlace(r), Letter: r.Intn(140), Struck: r.Intn(2) == 0}
			if r.Intn(4) == 0 {
				l[i].Place = anyText()
			}
		}
		_, err := Anchor(l, int(r.Uint64()))
		known(err)
		_, err = Resolve(l, anyText())
		known(err)
		_, err = Range(l, anyCursor(r), anyText())
		known(err)
	}
}
