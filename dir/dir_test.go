package dir

import (
	"errors"
	"math"
	"math/rand"
	"slices"
	"strings"
	"testing"

	"leafbinder/api"
	"leafbinder/book"
	"leafbinder/marks"
)

const tooLong = "zzzzzzzzzzzzb"

// some is a book of which `abcde` is seen; it has a struck leaf at either end,
// one between, and one that is not written yet.
var some = []api.Leaf{
	{Place: "bb", Letter: 'x', Struck: true},
	{Place: "db", Letter: 'a'},
	{Place: "hb", Letter: 'b'},
	{Place: "hbb", Struck: true},
	{Place: "hc", Letter: 'c'},
	{Place: "mb", Letter: 'y', Struck: true},
	{Place: "qb", Letter: 'd'},
	{Place: "qi", Letter: 'e'},
	{Place: "tb", Letter: 'z', Struck: true},
}

// struck is a book of which nothing is seen.
var struck = []api.Leaf{
	{Place: "db", Letter: 'a', Struck: true},
	{Place: "hb", Struck: true},
}

var wrongPlaces = []struct {
	p    string
	want api.Errno
}{
	{"", api.ErrSyntax},
	{"b", api.ErrSyntax},
	{"ha", api.ErrSyntax},
	{"hj", api.ErrSyntax},
	{"ab", api.ErrSyntax},
	{"h b", api.ErrSyntax},
	{"h\xffb", api.ErrSyntax},
	{tooLong, api.ErrFull},
	{strings.Repeat("?", 1000), api.ErrFull},
}

// farOffsets are none of any book.
var farOffsets = []int{-1, -2, -300, math.MinInt, math.MinInt + 1, api.MaxLeafs, 1 << 32, 1<<32 + 1, math.MaxInt, math.MaxInt - 1}

func mark(p string, who, n int) api.Mark {
	return api.Mark{Place: p, Dot: api.Dot{Who: who, N: n}}
}

// cutAt gives marks, one a place; the places must rise.
func cutAt(places ...string) []api.Mark {
	var l []api.Mark
	for i, p := range places {
		l = append(l, mark(p, 1+i%8, 1+i))
	}
	return l
}

// numbered gives so many places that rise, from bbb on.
func numbered(n int) []string {
	var l []string
	for i := range n {
		l = append(l, string([]byte{byte('b' + i/24), byte('b' + i%24), 'b'}))
	}
	return l
}

// many gives a book of so many leafs, all of which are seen.
func many(n int) []api.Leaf {
	var l []api.Leaf
	for i, p := range numbered(n) {
		l = append(l, api.Leaf{Place: p, Letter: 32 + i%95})
	}
	return l
}

type wrongList[T any] struct {
	name string
	l    []T
	want api.Errno
}

// wrongBooks: each error that a book's Check tells.
func wrongBooks() []wrongList[api.Leaf] {
	hb := api.Leaf{Place: "hb", Letter: 'a'}
	return []wrongList[api.Leaf]{
		{"301 leafs", many(301), api.ErrFull},
		{"a long place", []api.Leaf{{Place: tooLong, Letter: 'a'}}, api.ErrFull},
		{"a wrong place", []api.Leaf{{Place: "ha", Letter: 'a'}}, api.ErrSyntax},
		{"an empty leaf", []api.Leaf{{}}, api.ErrSyntax},
		{"letter 31", []api.Leaf{{Place: "hb", Letter: 31}}, api.ErrRange},
		{"letter 127, struck", []api.Leaf{{Place: "hb", Letter: 127, Struck: true}}, api.ErrRange},
		{"no letter", []api.Leaf{hb, {Place: "hc"}}, api.ErrShape},
		{"a place twice", []api.Leaf{hb, hb}, api.ErrClash},
		{"places that fall", []api.Leaf{hb, {Place: "bb", Letter: 'a'}}, api.ErrClash},
		{"a wrong leaf at last", append(many(299), api.Leaf{Place: "zzb"}), api.ErrShape},
	}
}

// wrongMarks: each error that marks' Check tells.
func wrongMarks() []wrongList[api.Mark] {
	return []wrongList[api.Mark]{
		{"41 marks", cutAt(numbered(41)...), api.ErrFull},
		{"a long place", cutAt(tooLong), api.ErrFull},
		{"a wrong place", cutAt("ha"), api.ErrSyntax},
		{"an empty mark", []api.Mark{{}}, api.ErrSyntax},
		{"author 0", []api.Mark{mark("hb", 0, 1)}, api.ErrRange},
		{"author 9", []api.Mark{mark("hb", 9, 1)}, api.ErrRange},
		{"number 0", []api.Mark{mark("hb", 1, 0)}, api.ErrRange},
		{"number 10000", []api.Mark{mark("hb", 1, 10000)}, api.ErrRange},
		{"a mark twice", []api.Mark{mark("hb", 1, 1), mark("hb", 1, 1)}, api.ErrClash},
		{"places that fall", cutAt("hb", "bb"), api.ErrClash},
		{"dots that fall", []api.Mark{mark("hb", 2, 1), mark("hb", 1, 1)}, api.ErrClash},
		{"a wrong mark at last", append(cutAt(numbered(39)...), mark("zzb", 1, 0)), api.ErrRange},
	}
}

func wantError(t *testing.T, err error, want api.Errno, call string, args ...any) {
	t.Helper()
	var e api.Errno
	if !errors.As(err, &e) || e != want {
		t.Errorf("%s of %v: error %v, want %v", call, args, err, want)
	}
}

func wantStretches(t *testing.T, l []api.Leaf, m []api.Mark, want ...api.Stretch) {
	t.Helper()
	got, err := Stretches(l, m)
	if !slices.Equal(got, want) || err != nil {
		t.Errorf("Stretches(%v, %v) = %v, %v, want %v", l, m, got, err, want)
	}
}

func wantLocated(t *testing.T, l []api.Leaf, m []api.Mark, offset, stretch, in int) {
	t.Helper()
	i, k, err := Locate(l, m, offset)
	if i != stretch || k != in || err != nil {
		t.Errorf("Locate(%v, %v, %d) = %d, %d, %v, want %d, %d", l, m, offset, i, k, err, stretch, in)
	}
}

func wantNotLocated(t *testing.T, l []api.Leaf, m []api.Mark, offset int, want api.Errno) {
	t.Helper()
	i, k, err := Locate(l, m, offset)
	wantError(t, err, want, "Locate", l, m, offset)
	if i != 0 || k != 0 {
		t.Errorf("Locate(%v, %v, %d) = %d, %d with an error", l, m, offset, i, k)
	}
}

func wantSlices(t *testing.T, l []api.Leaf, m []api.Mark, want ...string) {
	t.Helper()
	for i, part := range want {
		if text, err := Slice(l, m, i); text != part || err != nil {
			t.Errorf("Slice(%v, %v, %d) = %q, %v, want %q", l, m, i, text, err, part)
		}
	}
	if all, err := Slices(l, m); !slices.Equal(all, want) || err != nil {
		t.Errorf("Slices(%v, %v) = %q, %v, want %q", l, m, all, err, want)
	}
	for _, i := range []int{len(want), len(want) + 1, -1, -len(want), math.MinInt, math.MaxInt} {
		wantNoSlice(t, l, m, i, api.ErrRange)
	}
}

func wantNoSlice(t *testing.T, l []api.Leaf, m []api.Mark, i int, want api.Errno) {
	t.Helper()
	text, err := Slice(l, m, i)
	wantError(t, err, want, "Slice", l, m, i)
	if text != "" {
		t.Errorf("Slice(%v, %v, %d) = %q with an error", l, m, i, text)
	}
}

func wantOf(t *testing.T, l []api.Leaf, m []api.Mark, p string, want int) {
	t.Helper()
	if i, err := Of(l, m, p); i != want || err != nil {
		t.Errorf("Of(%v, %v, %q) = %d, %v, want %d", l, m, p, i, err, want)
	}
}

func wantOfNone(t *testing.T, l []api.Leaf, m []api.Mark, p string, want api.Errno) {
	t.Helper()
	i, err := Of(l, m, p)
	wantError(t, err, want, "Of", l, m, p)
	if i != 0 {
		t.Errorf("Of(%v, %v, %q) = %d with an error", l, m, p, i)
	}
}

// wantAllRefused calls all of them, of what all of them must refuse, with other
// arguments that are right, and with some that are wrong: those are told later.
func wantAllRefused(t *testing.T, l []api.Leaf, m []api.Mark, want api.Errno) {
	t.Helper()
	stretches, err := Stretches(l, m)
	wantError(t, err, want, "Stretches", l, m)
	if len(stretches) != 0 {
		t.Errorf("Stretches(%v, %v) = %v with an error", l, m, stretches)
	}
	parts, err := Slices(l, m)
	wantError(t, err, want, "Slices", l, m)
	if len(parts) != 0 {
		t.Errorf("Slices(%v, %v) = %q with an error", l, m, parts)
	}
	for _, n := range []int{0, 1, -1, math.MinInt, math.MaxInt} {
		wantNotLocated(t, l, m, n, want)
		wantNoSlice(t, l, m, n, want)
	}
	for _, p := range []string{"hb", "zzi", "", "ha", tooLong} {
		wantOfNone(t, l, m, p, want)
	}
}

func TestEmptyBook(t *testing.T) {
	for _, l := range [][]api.Leaf{nil, {}, struck} {
		for _, m := range [][]api.Mark{nil, {}} {
			wantStretches(t, l, m, api.Stretch{})
			wantSlices(t, l, m, "")
			wantOf(t, l, m, "hb", 0)
		}
		m := cutAt("db", "hb", "zzi")
		wantStretches(t, l, m, api.Stretch{}, api.Stretch{Place: "db"}, api.Stretch{Place: "hb"}, api.Stretch{Place: "zzi"})
		wantSlices(t, l, m, "", "", "", "")
		wantOf(t, l, m, "cb", 0)
		wantOf(t, l, m, "db", 1)
		wantOf(t, l, m, "zzi", 3)
		for _, offset := range append([]int{0, 1}, farOffsets...) {
			wantNotLocated(t, l, nil, offset, api.ErrRange)
			wantNotLocated(t, l, m, offset, api.ErrRange)
		}
	}
}

func TestNoMarks(t *testing.T) {
	for _, m := range [][]api.Mark{nil, {}} {
		wantStretches(t, some, m, api.Stretch{Long: 5})
		wantSlices(t, some, m, "abcde")
		for offset := range 5 {
			wantLocated(t, some, m, offset, 0, offset)
		}
		wantNotLocated(t, some, m, 5, api.ErrRange)
		for _, p := range []string{"bb", "hb", "hbb", "mb", "abb", "zzi"} {
			wantOf(t, some, m, p, 0)
		}
	}
}

// TestWhereItIsCut: one mark, and what is ahead of it, and from it on.
func TestWhereItIsCut(t *testing.T) {
	for _, c := range []struct {
		p           string
		ahead, from string
	}{
		{"hb", "a", "bcde"},           // at a letter
		{"hc", "ab", "cde"},           // at the one next to it
		{"hbabb", "ab", "cde"},        // at none, between two places
		{"hd", "abc", "de"},           // at none
		{"hbb", "ab", "cde"},          // not written yet
		{"mb", "abc", "de"},           // struck
		{"bb", "", "abcde"},           // at the first leaf, which is struck
		{"db", "", "abcde"},           // at the first that is seen
		{"abb", "", "abcde"},          // ahead of all
		{"qi", "abcd", "e"},           // at the last that is seen
		{"qib", "abcde", ""},          // behind it
		{"tb", "abcde", ""},           // at the last leaf, which is struck
		{"zzi", "abcde", ""},          // behind all
		{"zzzzzzzzzzzi", "abcde", ""}, // as long as a place may be
		{"aaaaaaaaaabb", "", "abcde"},
	} {
		m := cutAt(c.p)
		n := len(c.ahead)
		wantStretches(t, some, m, api.Stretch{Long: n}, api.Stretch{Place: c.p, From: n, Long: 5 - n})
		wantSlices(t, some, m, c.ahead, c.from)
		for offset := range 5 {
			if offset < n {
				wantLocated(t, some, m, offset, 0, offset)
			} else {
				wantLocated(t, some, m, offset, 1, offset-n)
			}
		}
		wantNotLocated(t, some, m, 5, api.ErrRange)
		wantOf(t, some, m, c.p, 1)
	}
}

func TestSeveralMarks(t *testing.T) {
	m := cutAt("cb", "hb", "hbb", "qb", "zb")
	wantStretches(t, some, m,
		api.Stretch{},
		api.Stretch{Place: "cb", Long: 1},
		api.Stretch{Place: "hb", From: 1, Long: 1},
		api.Stretch{Place: "hbb", From: 2, Long: 1},
		api.Stretch{Place: "qb", From: 3, Long: 2},
		api.Stretch{Place: "zb", From: 5})
	wantSlices(t, some, m, "", "a", "b", "c", "de", "")
	wantLocated(t, some, m, 0, 1, 0)
	wantLocated(t, some, m, 1, 2, 0)
	wantLocated(t, some, m, 2, 3, 0)
	wantLocated(t, some, m, 3, 4, 0)
	wantLocated(t, some, m, 4, 4, 1)
	wantNotLocated(t, some, m, 5, api.ErrRange)
}

// TestMarksAtOnePlace: the book is cut there once, whoever cut it.
func TestMarksAtOnePlace(t *testing.T) {
	m := []api.Mark{mark("hb", 1, 2), mark("hb", 1, 10), mark("hb", 8, 9999), mark("qb", 1, 1), mark("qb", 2, 1)}
	wantStretches(t, some, m,
		api.Stretch{Long: 1},
		api.Stretch{Place: "hb", From: 1, Long: 2},
		api.Stretch{Place: "qb", From: 3, Long: 2})
	wantSlices(t, some, m, "a", "bc", "de")
	wantLocated(t, some, m, 1, 1, 0)
	wantLocated(t, some, m, 4, 2, 1)
	wantOf(t, some, m, "hb", 1)
	wantOf(t, some, m, "qb", 2)

	var full []api.Mark
	for i := range api.MaxMarks {
		full = append(full, mark("hc", 3, 1+i))
	}
	wantStretches(t, some, full, api.Stretch{Long: 2}, api.Stretch{Place: "hc", From: 2, Long: 3})
}

// TestStretchesInWhichNoLetterIsSeen: an offset is in none of them, also where
// they begin at it.
func TestStretchesInWhichNoLetterIsSeen(t *testing.T) {
	m := cutAt("abb", "bb", "hbb", "hbc", "hbd", "mb", "mc", "qib", "tb")
	wantStretches(t, some, m,
		api.Stretch{},
		api.Stretch{Place: "abb"},
		api.Stretch{Place: "bb", Long: 2},
		api.Stretch{Place: "hbb", From: 2},
		api.Stretch{Place: "hbc", From: 2},
		api.Stretch{Place: "hbd", From: 2, Long: 1},
		api.Stretch{Place: "mb", From: 3},
		api.Stretch{Place: "mc", From: 3, Long: 2},
		api.Stretch{Place: "qib", From: 5},
		api.Stretch{Place: "tb", From: 5})
	wantSlices(t, some, m, "", "", "ab", "", "", "c", "", "de", "", "")
	wantLocated(t, some, m, 0, 2, 0)
	wantLocated(t, some, m, 1, 2, 1)
	wantLocated(t, some, m, 2, 5, 0)
	wantLocated(t, some, m, 3, 7, 0)
	wantLocated(t, some, m, 4, 7, 1)
	wantNotLocated(t, some, m, 5, api.ErrRange)
}

func TestOffsetsOfNoLetter(t *testing.T) {
	for _, l := range [][]api.Leaf{nil, some, struck, many(300)} {
		for _, m := range [][]api.Mark{nil, cutAt("hb"), cutAt("bb", "hb", "zzi"), cutAt(numbered(40)...)} {
			text, _ := book.Text(l)
			wantNotLocated(t, l, m, len(text), api.ErrRange)
			for _, offset := range farOffsets {
				wantNotLocated(t, l, m, offset, api.ErrRange)
			}
		}
	}
}

func TestOf(t *testing.T) {
	m := []api.Mark{mark("hb", 1, 1), mark("hb", 2, 1), mark("hbb", 1, 2), mark("qb", 1, 3)}
	for _, c := range []struct {
		p    string
		want int
	}{
		{"aaaaaaaaaabb", 0},
		{"bb", 0},
		{"db", 0},
		{"gzzzzzzzzzzi", 0}, // just ahead of hb
		{"gi", 0},
		{"hb", 1},           // at it
		{"hbaaaaaaaabb", 1}, // just behind it
		{"hbabb", 1},
		{"hbb", 2},
		{"hbc", 2},
		{"hc", 2},
		{"hnb", 2}, // in no book
		{"pi", 2},
		{"qb", 3},
		{"qbabb", 3},
		{"qi", 3},
		{"zzzzzzzzzzzi", 3},
	} {
		// Which leafs there are is nothing to it.
		for _, l := range [][]api.Leaf{nil, some, struck, many(300)} {
			wantOf(t, l, m, c.p, c.want)
		}
	}
}

func TestOfWrongPlaces(t *testing.T) {
	for _, l := range [][]api.Leaf{nil, some, many(300)} {
		for _, m := range [][]api.Mark{nil, cutAt("hb"), cutAt(numbered(40)...)} {
			for _, c := range wrongPlaces {
				wantOfNone(t, l, m, c.p, c.want)
			}
		}
	}
}

// TestFullBook: as many leafs and marks as there may be.
func TestFullBook(t *testing.T) {
	l, places := many(api.MaxLeafs), numbered(api.MaxLeafs)
	text, _ := book.Text(l)
	var at []string
	for i := range api.MaxMarks {
		at = append(at, places[5+7*i])
	}
	m := cutAt(at...)
	want, parts := []api.Stretch{{Long: 5}}, []string{text[:5]}
	for i, p := range at {
		from, to := 5+7*i, 5+7*i+7
		if i == api.MaxMarks-1 {
			to = api.MaxLeafs
		}
		want = append(want, api.Stretch{Place: p, From: from, Long: to - from})
		parts = append(parts, text[from:to])
	}
	wantStretches(t, l, m, want...)
	wantSlices(t, l, m, parts...)
	wantLocated(t, l, m, 0, 0, 0)
	wantLocated(t, l, m, 4, 0, 4)
	wantLocated(t, l, m, 5, 1, 0)
	wantLocated(t, l, m, 299, 40, 21)
	wantNotLocated(t, l, m, 300, api.ErrRange)
	wantOf(t, l, m, at[39], 40)
}

func TestWrongBooksAreRefused(t *testing.T) {
	for _, c := range wrongBooks() {
		for _, m := range [][]api.Mark{nil, cutAt("hb"), cutAt(numbered(40)...)} {
			wantAllRefused(t, c.l, m, c.want)
		}
	}
}

func TestWrongMarksAreRefused(t *testing.T) {
	for _, c := range wrongMarks() {
		for _, l := range [][]api.Leaf{nil, some, struck, many(300)} {
			wantAllRefused(t, l, c.l, c.want)
		}
	}
}

// TestTheBooksFaultIsToldFirst where both are wrong.
func TestTheBooksFaultIsToldFirst(t *testing.T) {
	for _, l := range wrongBooks() {
		for _, m := range wrongMarks() {
			wantAllRefused(t, l.l, m.l, l.want)
		}
	}
}

// playPlaces stand in order; a few are beginnings of others.
var playPlaces = []string{"abb", "bb", "db", "hb", "hbabb", "hbb", "hc", "hnd", "mb", "qb", "qi", "tb", "zb", "zzi"}

func anyBook(r *rand.Rand) []api.Leaf {
	var l []api.Leaf
	for _, p := range playPlaces {
		leaf := api.Leaf{Place: p, Letter: 32 + r.Intn(95)}
		switch r.Intn(6) {
		case 0, 1:
			continue
		case 2:
			leaf.Struck = true
		case 3:
			leaf.Letter, leaf.Struck = 0, true
		}
		l = append(l, leaf)
	}
	return l
}

func anyMarks(r *rand.Rand) []api.Mark {
	var l []api.Mark
	often := 1 + r.Intn(6)
	for _, p := range playPlaces {
		for who := 1; who <= 2; who++ {
			if r.Intn(often) == 0 {
				l = append(l, mark(p, who, 1+r.Intn(9999)))
			}
		}
	}
	return l
}

// pile is a stretch, letter by letter.
type pile struct{ place, text string }

// pilesOf lays each letter on the pile of the last cut that is not behind it, by
// going over all places.
func pilesOf(l []api.Leaf, m []api.Mark) []pile {
	piles := []pile{{}}
	for _, p := range playPlaces {
		if slices.ContainsFunc(m, func(one api.Mark) bool { return one.Place == p }) {
			piles = append(piles, pile{place: p})
		}
		for _, leaf := range l {
			if leaf.Place == p && leaf.Letter != 0 && !leaf.Struck {
				piles[len(piles)-1].text += string(rune(leaf.Letter))
			}
		}
	}
	return piles
}

func TestLongPlay(t *testing.T) {
	r := rand.New(rand.NewSource(7))
	for range 2000 {
		l, m := anyBook(r), anyMarks(r)
		var want []api.Stretch
		var parts []string
		offset := 0
		for i, one := range pilesOf(l, m) {
			want = append(want, api.Stretch{Place: one.place, From: offset, Long: len(one.text)})
			parts = append(parts, one.text)
			for k := range len(one.text) {
				wantLocated(t, l, m, offset, i, k)
				offset++
			}
			if i > 0 {
				wantOf(t, l, m, one.place, i)
			}
		}
		wantStretches(t, l, m, want...)
		wantSlices(t, l, m, parts...)
		wantNotLocated(t, l, m, offset, api.ErrRange)
		wantTogether(t, l, m, parts)
	}
}

// wantTogether: the slices are the text, and where a letter is located is where
// its leaf's place is.
func wantTogether(t *testing.T, l []api.Leaf, m []api.Mark, parts []string) {
	t.Helper()
	text, err := book.Text(l)
	if got := strings.Join(parts, ""); got != text || err != nil || marks.Check(m) != nil {
		t.Fatalf("of %v, %v: %q in all, want %q", l, m, got, text)
	}
	for offset := range len(text) {
		i, err := book.At(l, offset)
		if err != nil {
			t.Fatal(err)
		}
		stretch, in, err := Locate(l, m, offset)
		if err != nil || parts[stretch][in] != text[offset] {
			t.Fatalf("Locate(%v, %v, %d) = %d, %d, %v", l, m, offset, stretch, in, err)
		}
		wantOf(t, l, m, l[i].Place, stretch)
	}
}

// callAll of them, whatever they answer; the lists that come out are overwritten.
func callAll(l []api.Leaf, m []api.Mark) {
	stretches, _ := Stretches(l, m)
	stretches = stretches[:cap(stretches)]
	for i := range stretches {
		stretches[i] = api.Stretch{Place: "over", From: 5555, Long: 5555}
	}
	Slices(l, m)
	for _, n := range []int{-1, 0, 1, 4, 5} {
		Locate(l, m, n)
		Slice(l, m, n)
	}
	for _, p := range []string{"hb", "zzi", "", tooLong} {
		Of(l, m, p)
	}
}

func TestNothingHandedInIsWrittenInto(t *testing.T) {
	// Behind the length of the lists lies room, with something in it.
	room := []api.Leaf{{Place: "hb", Letter: 'a'}, {Place: "zzi", Letter: 'a'}, {Letter: -1}}
	more := []api.Mark{mark("hb", 1, 1), mark("zzi", 1, 1), mark("", 77, 77)}
	books := [][]api.Leaf{nil, some, struck, wrongBooks()[6].l}
	cuts := [][]api.Mark{nil, cutAt("cb", "hb", "hbb"), {mark("qb", 1, 1), mark("qb", 2, 1)}, wrongMarks()[9].l}
	for _, l := range books {
		for _, m := range cuts {
			whole, all := slices.Concat(l, room), slices.Concat(m, more)
			kept, held := slices.Clone(whole), slices.Clone(all)
			again, bad := Stretches(whole[:len(l)], all[:len(m)])
			want, err := Stretches(slices.Clone(l), slices.Clone(m))
			callAll(whole[:len(l)], all[:len(m)])
			if !slices.Equal(whole, kept) || !slices.Equal(all, held) {
				t.Fatalf("what was handed in is now %v, %v, was %v, %v", whole, all, kept, held)
			}
			if !slices.Equal(again, want) || bad != err {
				t.Fatalf("what came out before is now %v, %v, want %v, %v", again, bad, want, err)
			}
		}
	}
}

// TestNothingHandedInIsKept: what came out stays as it was when what was handed
// in is another one, and the next call goes by that.
func TestNothingHandedInIsKept(t *testing.T) {
	l, m := slices.Clone(some), cutAt("hb", "qb")
	got, _ := Stretches(l, m)
	want := slices.Clone(got)
	for i := range l {
		l[i] = api.Leaf{Place: numbered(len(l))[i], Letter: '!'}
	}
	m[0], m[1] = mark("bcb", 1, 1), mark("bcb", 2, 2)
	if !slices.Equal(got, want) {
		t.Errorf("what came out is now %v, was %v", got, want)
	}
	wantStretches(t, l, m, api.Stretch{Long: 1}, api.Stretch{Place: "bcb", From: 1, Long: 8})
}
