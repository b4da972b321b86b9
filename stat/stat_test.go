package stat

import (
	"errors"
	"fmt"
	"math"
	"math/rand"
	"slices"
	"strings"
	"testing"

	"leafbinder/api"
	"leafbinder/book"
	"leafbinder/doc"
	"leafbinder/edit"
	"leafbinder/place"
)

// The lowest place, the highest one, and one that is too long.
const (
	lowest  = "aaaaaaaaaabb"
	highest = "zzzzzzzzzzzi"
	tooLong = "bbbbbbbbbbbbb"
)

var wrongLetters = []int{
	31, 127, -1, 1, -32, -97, 128, 255, 256 + 97, 1<<32 + 97, 1 << 32, math.MinInt, math.MinInt + 97, math.MaxInt,
}

// wrongPlaces, each with what is wrong with it.
var wrongPlaces = []struct {
	p    string
	want api.Errno
}{
	{"", api.ErrSyntax},
	{"b", api.ErrSyntax},
	{"ha", api.ErrSyntax}, // of the author 0
	{"hj", api.ErrSyntax}, // of the author 9
	{"hz", api.ErrSyntax},
	{"ab", api.ErrSyntax},
	{"hab", api.ErrSyntax},
	{"Hb", api.ErrSyntax},
	{"hB", api.ErrSyntax},
	{"h b", api.ErrSyntax},
	{"h{b", api.ErrSyntax},
	{"h`b", api.ErrSyntax},
	{"h\x00", api.ErrSyntax},
	{"h\xffb", api.ErrSyntax},
	{tooLong, api.ErrFull},
	{strings.Repeat("?", 13), api.ErrFull},
	{strings.Repeat("a", 1000), api.ErrFull},
}

// told is what all four tell of a book.
type told struct {
	written [8]int
	struck  int
	runs    [][2]int
	longest int
}

func leafs(l ...api.Leaf) []api.Leaf { return l }

func seen(p string) api.Leaf { return api.Leaf{Place: p, Letter: 'x'} }

func struck(p string) api.Leaf { return api.Leaf{Place: p, Letter: 'x', Struck: true} }

// early is struck ahead of being written.
func early(p string) api.Leaf { return api.Leaf{Place: p, Struck: true} }

// of gives a place of an author: the number-th one, in order.
func of(number, who int) string {
	return string([]byte{byte('b' + number/24), byte('b' + number%24), byte('a' + who)})
}

// by gives a book: a leaf of each of the authors, in order, as made.
func by(made func(string) api.Leaf, authors ...int) []api.Leaf {
	var l []api.Leaf
	for i, who := range authors {
		l = append(l, made(of(i, who)))
	}
	return l
}

// turns gives so many authors, as a rule says.
func turns(n int, who func(i int) int) []int {
	var authors []int
	for i := range n {
		authors = append(authors, who(i))
	}
	return authors
}

func same(n, who int) []int { return turns(n, func(int) int { return who }) }

// short keeps what a failing test says of a long list readable.
func short(l []api.Leaf) string { return fmt.Sprintf("%d leafs: %.300q", len(l), fmt.Sprint(l)) }

func wantTold(t *testing.T, l []api.Leaf, want told) {
	t.Helper()
	written, err := Written(l)
	if err != nil || !slices.Equal(written, want.written[:]) {
		t.Errorf("Written(%s) = %v, %v, want %v", short(l), written, err, want.written)
	}
	n, err := Struck(l)
	if err != nil || n != want.struck {
		t.Errorf("Struck(%s) = %d, %v, want %d", short(l), n, err, want.struck)
	}
	runs, err := Runs(l)
	if err != nil || !slices.Equal(runs, want.runs) {
		t.Errorf("Runs(%s) = %v, %v, want %v", short(l), runs, err, want.runs)
	}
	long, err := Longest(l)
	if err != nil || long != want.longest {
		t.Errorf("Longest(%s) = %d, %v, want %d", short(l), long, err, want.longest)
	}
}

func wantErrno(t *testing.T, err error, want api.Errno, call string, l []api.Leaf) {
	t.Helper()
	var got api.Errno
	if !errors.As(err, &got) || got != want {
		t.Errorf("%s of %s: error %v, want %v", call, short(l), err, want)
	}
}

func wantRefused(t *testing.T, l []api.Leaf, want api.Errno) {
	t.Helper()
	written, err := Written(l)
	wantErrno(t, err, want, "Written", l)
	n, err := Struck(l)
	wantErrno(t, err, want, "Struck", l)
	runs, err := Runs(l)
	wantErrno(t, err, want, "Runs", l)
	long, err := Longest(l)
	wantErrno(t, err, want, "Longest", l)
	if len(written) != 0 || n != 0 || len(runs) != 0 || long != 0 {
		t.Errorf("of %s: %v, %d, %v, %d with an error", short(l), written, n, runs, long)
	}
}

func TestOfAnEmptyBook(t *testing.T) {
	wantTold(t, nil, told{})
	wantTold(t, []api.Leaf{}, told{})
	wantTold(t, by(seen, 1, 2, 3)[:0], told{})
}

func TestOfOneLeaf(t *testing.T) {
	for who := 1; who <= 8; who++ {
		p := "h" + string(rune('a'+who))
		var one [8]int
		one[who-1] = 1
		for letter := 32; letter <= 126; letter++ {
			leaf := api.Leaf{Place: p, Letter: letter}
			wantTold(t, leafs(leaf), told{one, 0, [][2]int{{who, 1}}, 2})
			leaf.Struck = true
			wantTold(t, leafs(leaf), told{struck: 1, longest: 2})
		}
		wantTold(t, leafs(early(p)), told{struck: 1, longest: 2})
	}
}

func TestOfSomeBooks(t *testing.T) {
	for _, c := range []struct {
		l    []api.Leaf
		want told
	}{
		{leafs(seen("abb"), seen("zb")), told{[8]int{2}, 0, [][2]int{{1, 2}}, 3}},
		{leafs(seen("hb"), seen("hbb"), seen("hc"), seen("hi")), told{[8]int{0: 2, 1: 1, 7: 1}, 0, [][2]int{{1, 2}, {2, 1}, {8, 1}}, 3}},
		// The one of the README.
		{leafs(seen("hb"), struck("id"), seen("jzb"), seen("mc"), early("pb")), told{[8]int{2, 1}, 2, [][2]int{{1, 2}, {2, 1}}, 3}},
		// Whose it is hangs on the last letter, not on those ahead of it.
		{leafs(seen("bbi"), seen("bi"), seen("ib"), seen("iib")), told{[8]int{0: 2, 7: 2}, 0, [][2]int{{8, 2}, {1, 2}}, 3}},
		{leafs(struck("abb"), seen("bb"), seen("hb"), early("hbb"), seen("hc"), struck("zi")), told{[8]int{2, 1}, 3, [][2]int{{1, 2}, {2, 1}}, 3}},
		{by(seen, 1, 1, 2, 2, 2, 1, 8, 8, 1), told{[8]int{0: 4, 1: 3, 7: 2}, 0, [][2]int{{1, 2}, {2, 3}, {1, 1}, {8, 2}, {1, 1}}, 3}},
		{leafs(seen(lowest), seen("hb"), seen(highest)), told{[8]int{0: 2, 7: 1}, 0, [][2]int{{1, 2}, {8, 1}}, 12}},
	} {
		wantTold(t, c.l, c.want)
	}
}

func TestOfOneAuthorAlone(t *testing.T) {
	for who := 1; who <= 8; who++ {
		for _, n := range []int{1, 2, 3, 100, 299, 300} {
			want := told{runs: [][2]int{{who, n}}, longest: 3}
			want.written[who-1] = n
			wantTold(t, by(seen, same(n, who)...), want)
			wantTold(t, by(struck, same(n, who)...), told{struck: n, longest: 3})
			wantTold(t, by(early, same(n, who)...), told{struck: n, longest: 3})
		}
	}
}

func TestOfAllEight(t *testing.T) {
	all := [8]int{1, 1, 1, 1, 1, 1, 1, 1}
	wantTold(t, by(seen, 1, 2, 3, 4, 5, 6, 7, 8),
		told{all, 0, [][2]int{{1, 1}, {2, 1}, {3, 1}, {4, 1}, {5, 1}, {6, 1}, {7, 1}, {8, 1}}, 3})
	wantTold(t, by(seen, 8, 7, 6, 5, 4, 3, 2, 1),
		told{all, 0, [][2]int{{8, 1}, {7, 1}, {6, 1}, {5, 1}, {4, 1}, {3, 1}, {2, 1}, {1, 1}}, 3})
	// Each author has another number of letters.
	var authors []int
	want := told{longest: 3}
	for who := 1; who <= 8; who++ {
		authors = append(authors, same(who*who, who)...)
		want.written[who-1] = who * who
		want.runs = append(want.runs, [2]int{who, who * who})
	}
	wantTold(t, by(seen, authors...), want)
}

func TestOfTwoInTurn(t *testing.T) {
	for _, pair := range [][2]int{{1, 2}, {2, 1}, {1, 8}, {8, 1}, {4, 5}} {
		for _, n := range []int{2, 3, 4, 5, 299, 300} {
			authors := turns(n, func(i int) int { return pair[i%2] })
			want := told{longest: 3}
			for _, who := range authors {
				want.written[who-1]++
				want.runs = append(want.runs, [2]int{who, 1})
			}
			wantTold(t, by(seen, authors...), want)
		}
	}
}

// TestRunsOverWhatIsStruck: what is not seen neither ends a run nor is in it,
// whosever it is.
func TestRunsOverWhatIsStruck(t *testing.T) {
	for _, made := range []func(string) api.Leaf{struck, early} {
		for who := 1; who <= 8; who++ {
			gone := made(of(1, who))
			wantTold(t, leafs(seen("bbb"), gone, seen("bdb")), told{[8]int{2}, 1, [][2]int{{1, 2}}, 3})
			wantTold(t, leafs(seen("bbi"), gone, seen("bdi")), told{[8]int{7: 2}, 1, [][2]int{{8, 2}}, 3})
			wantTold(t, leafs(seen("bbb"), gone, seen("bdi")), told{[8]int{0: 1, 7: 1}, 1, [][2]int{{1, 1}, {8, 1}}, 3})
			wantTold(t, leafs(seen("bbi"), gone, seen("bdb")), told{[8]int{0: 1, 7: 1}, 1, [][2]int{{8, 1}, {1, 1}}, 3})
			wantTold(t, leafs(gone, seen("bdb")), told{[8]int{1}, 1, [][2]int{{1, 1}}, 3})
			wantTold(t, leafs(seen("bbb"), gone), told{[8]int{1}, 1, [][2]int{{1, 1}}, 3})
			wantTold(t, leafs(seen("bbb"), gone, made(of(2, 3)), made(of(3, who)), seen("bfb")), told{[8]int{2}, 3, [][2]int{{1, 2}}, 3})
		}
	}
}

func TestStruckNoneSomeAll(t *testing.T) {
	for _, n := range []int{0, 1, 2, 150, 299, 300} {
		l := by(seen, same(300, 4)...)
		for i := range n {
			l[i].Struck = true
			if i%2 == 0 {
				l[i].Letter = 0
			}
		}
		want := told{struck: n, longest: 3}
		if n < 300 {
			want.written[3] = 300 - n
			want.runs = [][2]int{{4, 300 - n}}
		}
		wantTold(t, l, want)
	}
	wantTold(t, leafs(struck("hb"), early("hc")), told{struck: 2, longest: 2})
	wantTold(t, leafs(early("hb"), struck("hc")), told{struck: 2, longest: 2})
}

func TestLongestOfEachLength(t *testing.T) {
	for long := 2; long <= 12; long++ {
		p := strings.Repeat("h", long-1) + "b"
		for _, made := range []func(string) api.Leaf{seen, struck, early} {
			for _, l := range [][]api.Leaf{
				leafs(made(p)),
				leafs(made(p), seen("zb")),             // the first one
				leafs(seen("bb"), made(p)),             // the last one
				leafs(seen("bb"), made(p), seen("zb")), // one between
				leafs(struck("bb"), made(p), early("zb")),
			} {
				if got, err := Longest(l); got != long || err != nil {
					t.Errorf("Longest(%v) = %d, %v, want %d", l, got, err, long)
				}
			}
		}
	}
	for _, c := range []struct {
		l    []api.Leaf
		want int
	}{
		{leafs(seen(lowest)), 12},
		{leafs(seen(highest)), 12},
		{leafs(seen(lowest), seen("hb"), seen("zzi")), 12},
		{leafs(seen("bb"), seen("hhb"), seen(highest)), 12},
		{leafs(seen("bb"), seen("bbb"), seen("bbbb")), 4},
		{leafs(seen("bbbb"), seen("ccc"), seen("dd")), 4},
		{append(by(early, same(299, 1)...), seen("zzzzi")), 5},
	} {
		if got, err := Longest(c.l); got != c.want || err != nil {
			t.Errorf("Longest(%v) = %d, %v, want %d", c.l, got, err, c.want)
		}
	}
}

func TestTooManyLeafs(t *testing.T) {
	for _, made := range []func(string) api.Leaf{seen, struck, early} {
		wantRefused(t, by(made, same(301, 1)...), api.ErrFull)
		wantRefused(t, by(made, same(301, 8)...), api.ErrFull)
		wantRefused(t, by(made, same(500, 8)...), api.ErrFull)
	}
	// That there are too many is told ahead of what is wrong with one of them.
	wantRefused(t, make([]api.Leaf, 301), api.ErrFull)
	wantRefused(t, make([]api.Leaf, 100_000), api.ErrFull)
	wantRefused(t, append(leafs(api.Leaf{Place: "hb", Letter: 31}), by(seen, same(300, 1)...)...), api.ErrFull)
	wantRefused(t, make([]api.Leaf, 300), api.ErrSyntax)
}

func TestWrongPlaces(t *testing.T) {
	for _, c := range wrongPlaces {
		for _, leaf := range []api.Leaf{seen(c.p), struck(c.p), early(c.p)} {
			wantRefused(t, leafs(leaf), c.want)
			wantRefused(t, leafs(leaf, seen("zb")), c.want)
			wantRefused(t, leafs(struck("hb"), leaf), c.want)
			wantRefused(t, append(by(seen, same(299, 1)...), leaf), c.want)
		}
		// It is told ahead of a wrong letter, of none, and of not rising.
		for _, letter := range append(slices.Clone(wrongLetters), 0) {
			wantRefused(t, leafs(api.Leaf{Place: c.p, Letter: letter}), c.want)
			wantRefused(t, leafs(seen("zzi"), api.Leaf{Place: c.p, Letter: letter}), c.want)
		}
	}
}

func TestWrongLetters(t *testing.T) {
	for _, letter := range wrongLetters {
		for _, is := range []bool{false, true} {
			wantRefused(t, leafs(api.Leaf{Place: "hb", Letter: letter, Struck: is}), api.ErrRange)
			wantRefused(t, append(by(seen, same(299, 1)...), api.Leaf{Place: "zzb", Letter: letter, Struck: is}), api.ErrRange)
			// It is told ahead of not rising.
			wantRefused(t, leafs(seen("zb"), api.Leaf{Place: "hb", Letter: letter, Struck: is}), api.ErrRange)
		}
	}
}

func TestNeitherALetterNorStruck(t *testing.T) {
	wantRefused(t, leafs(api.Leaf{Place: "hb"}), api.ErrShape)
	wantRefused(t, leafs(seen("hb"), api.Leaf{Place: "hc"}, seen("hd")), api.ErrShape)
	wantRefused(t, append(by(seen, same(299, 1)...), api.Leaf{Place: "zzb"}), api.ErrShape)
	// It is told ahead of not rising.
	wantRefused(t, leafs(seen("zb"), api.Leaf{Place: "hb"}), api.ErrShape)
	wantRefused(t, leafs(seen("hb"), api.Leaf{Place: "hb"}), api.ErrShape)
}

func TestPlacesThatDoNotRise(t *testing.T) {
	for _, made := range []func(string) api.Leaf{seen, struck, early} {
		wantRefused(t, leafs(made("hb"), made("hb")), api.ErrClash)
		wantRefused(t, leafs(made("hb"), seen("hb")), api.ErrClash)
		wantRefused(t, leafs(made("hc"), made("hb")), api.ErrClash)
		wantRefused(t, leafs(made("hbb"), made("hb")), api.ErrClash)
		wantRefused(t, leafs(seen("bb"), made("hb"), seen("abb")), api.ErrClash)
		wantRefused(t, append(by(made, same(299, 1)...), made("bbb")), api.ErrClash)
	}
}

// TestTheFirstWrongLeaf: what is wrong with it is told, however the document
// orders what is wrong with those behind it.
func TestTheFirstWrongLeaf(t *testing.T) {
	wrong := []struct {
		leaf api.Leaf
		want api.Errno
	}{
		{seen(tooLong), api.ErrFull},
		{seen("ha"), api.ErrSyntax},
		{api.Leaf{Place: "nb", Letter: 127}, api.ErrRange},
		{api.Leaf{Place: "nb"}, api.ErrShape},
		{seen("bb"), api.ErrClash},
	}
	for _, first := range wrong {
		for _, next := range wrong {
			wantRefused(t, leafs(seen("hb"), first.leaf, next.leaf), first.want)
			wantRefused(t, leafs(early("hb"), first.leaf, seen("zb"), next.leaf), first.want)
		}
	}
}

// plainTold tells of a book by plain means; of who wrote a place by its last
// letter alone.
func plainTold(l []api.Leaf) told {
	var want told
	var authors []int
	for _, leaf := range l {
		switch {
		case leaf.Struck:
			want.struck++
		default:
			authors = append(authors, strings.IndexByte("abcdefghi", leaf.Place[len(leaf.Place)-1]))
		}
		if len(leaf.Place) > want.longest {
			want.longest = len(leaf.Place)
		}
	}
	for i := 0; i < len(authors); {
		n := 1
		for i+n < len(authors) && authors[i+n] == authors[i] {
			n++
		}
		want.written[authors[i]-1] += n
		want.runs = append(want.runs, [2]int{authors[i], n})
		i += n
	}
	return want
}

// TestAllShortBooks: each of up to five leafs of two authors, seen, struck, and
// struck ahead of being written.
func TestAllShortBooks(t *testing.T) {
	kinds := []func(string) api.Leaf{seen, struck, early}
	for n := range 6 {
		all := int(math.Pow(6, float64(n)))
		for number := range all {
			var l []api.Leaf
			for i, rest := 0, number; i < n; i, rest = i+1, rest/6 {
				l = append(l, kinds[rest%3](of(i, 1+rest%6/3*7)))
			}
			wantTold(t, l, plainTold(l))
		}
	}
}

// anyPlace gives one of any length and author.
func anyPlace(r *rand.Rand) string {
	p := make([]byte, 2+r.Intn(1+r.Intn(11)))
	for i := range p {
		p[i] = byte('a' + r.Intn(26))
	}
	p[len(p)-2] = byte('b' + r.Intn(25))
	p[len(p)-1] = byte('b' + r.Intn(8))
	return string(p)
}

// anyBook gives one that is right, of at most so many leafs.
func anyBook(r *rand.Rand, n int) []api.Leaf {
	var l []api.Leaf
	for range n {
		letter := 32 + r.Intn(95)
		leaf := api.Leaf{Place: anyPlace(r), Letter: letter, Struck: r.Intn(3) == 0}
		if leaf.Struck && r.Intn(2) == 0 {
			leaf.Letter = 0
		}
		l = append(l, leaf)
	}
	slices.SortFunc(l, func(a, b api.Leaf) int { return strings.Compare(a.Place, b.Place) })
	return slices.CompactFunc(l, func(a, b api.Leaf) bool { return a.Place == b.Place })
}

func TestAnyBooks(t *testing.T) {
	for seed := range 2000 {
		r := rand.New(rand.NewSource(int64(seed)))
		l := anyBook(r, r.Intn(301))
		wantTold(t, l, plainTold(l))
		if t.Failed() {
			t.Fatalf("seed %d", seed)
		}
	}
}

// TestAnyLists: also what is no book is answered, with the error that Check of
// a book tells.
func TestAnyLists(t *testing.T) {
	got := map[api.Errno]int{}
	for seed := range 3000 {
		r := rand.New(rand.NewSource(int64(seed)))
		l := anyBook(r, 1+r.Intn(320))
		leaf := &l[r.Intn(len(l))]
		switch r.Intn(6) {
		case 0:
			leaf.Place = wrongPlaces[r.Intn(len(wrongPlaces))].p
		case 1:
			leaf.Letter = wrongLetters[r.Intn(len(wrongLetters))]
		case 2:
			leaf.Letter, leaf.Struck = 0, false
		case 3:
			leaf.Place = anyPlace(r)
		case 4:
			*leaf = l[0]
		}
		err, want := book.Check(l), api.OK
		if errors.As(err, &want); err == nil {
			wantTold(t, l, plainTold(l))
		} else {
			wantRefused(t, l, want)
		}
		got[want]++
	}
	for _, want := range []api.Errno{api.OK, api.ErrRange, api.ErrSyntax, api.ErrShape, api.ErrFull, api.ErrClash} {
		if got[want] < 20 {
			t.Errorf("the lists come to %v", got)
		}
	}
}

// TestOfWhatIsEdited: letters are counted for who wrote them, whoever strikes.
func TestOfWhatIsEdited(t *testing.T) {
	d := doc.New()
	do := func(ops []api.Op, err error) {
		t.Helper()
		if err := errors.Join(err, edit.Do(d, ops)); err != nil {
			t.Fatal(err)
		}
	}
	do(edit.Insert(d, 1, 0, "one book"))
	do(edit.Insert(d, 8, 3, "!!"))
	do(edit.Insert(d, 3, 10, "s"))
	do(edit.Delete(d, 3, 0, 4)) // three of author 1, and one of author 8
	if d.Text() != "! books" {
		t.Fatalf("seen is %q", d.Text())
	}
	l := d.Book()
	want := told{[8]int{0: 5, 2: 1, 7: 1}, 4, [][2]int{{8, 1}, {1, 5}, {3, 1}}, 0}
	for _, leaf := range l {
		want.longest = max(want.longest, len(leaf.Place))
	}
	wantTold(t, l, want)
	for i, leaf := range l {
		if who, err := place.Who(leaf.Place); err != nil || i < 3 && who != 1 {
			t.Errorf("leaf %d is at %q, of %d, %v", i, leaf.Place, who, err)
		}
	}
}

func TestNothingHandedInIsChangedOrReadBehind(t *testing.T) {
	for seed := range 200 {
		r := rand.New(rand.NewSource(int64(seed)))
		l := anyBook(r, r.Intn(50))
		if seed%4 == 0 {
			l = append(l, seen("ha"))
		}
		// Behind the length lies what would be wrong, or counted.
		whole := append(slices.Clone(l), seen(highest), early(highest), api.Leaf{}, api.Leaf{Place: tooLong, Letter: 999})
		kept := slices.Clone(whole)
		given := whole[:len(l)]
		if seed%4 == 0 {
			wantRefused(t, given, api.ErrSyntax)
		} else {
			wantTold(t, given, plainTold(l))
		}
		if !slices.Equal(whole, kept) {
			t.Fatalf("seed %d: what was handed in is now %s, was %s", seed, short(whole), short(kept))
		}
	}
}

func TestWhatComesOutIsTheCallers(t *testing.T) {
	l := by(seen, 1, 1, 2, 8, 8, 8, 3)
	want := plainTold(l)
	written, _ := Written(l)
	runs, _ := Runs(l)
	written, runs = written[:cap(written)], runs[:cap(runs)]
	for i := range written {
		written[i] = -7
	}
	for i := range runs {
		runs[i] = [2]int{-7, -7}
	}
	wantTold(t, l, want)
	wantTold(t, nil, told{})

	// What came out stays, whatever becomes of the book, and of later calls.
	written, _ = Written(l)
	runs, _ = Runs(l)
	again, _ := Written(l)
	more, _ := Runs(l)
	for i := range again {
		again[i]++
	}
	for i := range more {
		more[i][0]++
	}
	clear(l)
	wantRefused(t, l, api.ErrSyntax)
	wantTold(t, by(seen, same(300, 5)...), told{[8]int{4: 300}, 0, [][2]int{{5, 300}}, 3})
	if !slices.Equal(written, want.written[:]) || !slices.Equal(runs, want.runs) {
		t.Errorf("what came out is now %v, %v", written, runs)
	}
}

// TestWhatIsToldGoesTogether: runs sum up to what is written, and to what is
// seen; no two neighbours are of one author.
func TestWhatIsToldGoesTogether(t *testing.T) {
	for seed := range 300 {
		r := rand.New(rand.NewSource(int64(seed)))
		l := anyBook(r, r.Intn(301))
		written, err := Written(l)
		runs, bad := Runs(l)
		n, ill := Struck(l)
		text, no := book.Text(l)
		if err := errors.Join(err, bad, ill, no); err != nil {
			t.Fatal(err)
		}
		var sums [8]int
		all := 0
		for i, run := range runs {
			if run[1] < 1 || i > 0 && runs[i-1][0] == run[0] {
				t.Fatalf("seed %d: runs %v", seed, runs)
			}
			sums[run[0]-1] += run[1]
			all += run[1]
		}
		if !slices.Equal(written, sums[:]) || all != len(text) || all+n != len(l) {
			t.Fatalf("seed %d: %v, %v, %d struck, of %s", seed, written, runs, n, short(l))
		}
	}
}
