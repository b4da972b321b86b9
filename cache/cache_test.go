package cache

import (
	"errors"
	"fmt"
	"math"
	"math/rand"
	"slices"
	"strings"
	"testing"

	"leafbinder/api"
	"leafbinder/place"
	"leafbinder/plain"
)

// entry of a cache, or of a plain list beside it.
type entry struct{ place, text string }

// wrongPlaces are texts that are no places, one or more for each fault.
func wrongPlaces() []string {
	return []string{
		"b", "z", " ", "\x00", // less than two letters
		"ha", "hj", "hz", "zzzza", // the last one is no author's
		"ab", "hab", "zzzzai", // an a ahead of it
		"Hb", "hB", "h1b", "h b", " hb", "hb ", "hb\n", "h\x00b", "\xffb", "éb", "hé", "`b", "{b", // not a to z
		"zzzzzzzzzzzzb", "zzzzzzzzzzzzz", "?????????????", strings.Repeat("b", 1000), // more than twelve
	}
}

func newCache(t *testing.T, budget int) *Cache {
	t.Helper()
	c, err := New(budget)
	if c == nil || err != nil {
		t.Fatalf("New(%d): got %v, %v, want a Cache", budget, c, err)
	}
	return c
}

// loaded gives a Cache that has these, loaded one by one.
func loaded(t *testing.T, budget int, l ...entry) *Cache {
	t.Helper()
	c := newCache(t, budget)
	for _, e := range l {
		load(t, c, e.place, e.text)
	}
	return c
}

func load(t *testing.T, c *Cache, p, text string) {
	t.Helper()
	if err := c.Load(p, text); err != nil {
		t.Fatalf("Load(%q, %q): %v", p, text, err)
	}
}

func drop(t *testing.T, c *Cache, p string) {
	t.Helper()
	if err := c.Drop(p); err != nil {
		t.Fatalf("Drop(%q): %v", p, err)
	}
}

func wantGet(t *testing.T, c *Cache, p, want string) {
	t.Helper()
	if got, err := c.Get(p); got != want || err != nil {
		t.Errorf("Get(%q): got %q, %v, want %q", p, got, err, want)
	}
}

func wantErrno(t *testing.T, err error, want api.Errno, why ...any) {
	t.Helper()
	var got api.Errno
	if !errors.As(err, &got) || got != want {
		t.Errorf("%q: error %v, want %v", why, err, want)
	}
}

// wantHolds: Places and Used, which change nothing.
func wantHolds(t *testing.T, c *Cache, used int, places ...string) {
	t.Helper()
	for range 2 {
		if got := c.Places(); !slices.Equal(got, places) {
			t.Errorf("Places: got %d: %.600q, want %d: %.600q", len(got), fmt.Sprint(got), len(places), fmt.Sprint(places))
		}
		if got := c.Used(); got != used {
			t.Errorf("Used: got %d, want %d", got, used)
		}
	}
}

// wantTexts: all that it has, from the one that was asked for the longest time
// ago. As they are asked for in that order, it stays as it is.
func wantTexts(t *testing.T, c *Cache, want ...entry) {
	t.Helper()
	var places []string
	used := 0
	for _, e := range want {
		places = append(places, e.place)
		used += len(e.text)
	}
	wantHolds(t, c, used, places...)
	for _, e := range want {
		wantGet(t, c, e.place, e.text)
	}
	wantHolds(t, c, used, places...)
}

// wantRefused Load: it has what it had.
func wantRefused(t *testing.T, c *Cache, p, text string, want api.Errno) {
	t.Helper()
	places, used := c.Places(), c.Used()
	wantErrno(t, c.Load(p, text), want, "Load", p, len(text))
	wantHolds(t, c, used, places...)
}

// wantNone at a place: neither Get nor Drop finds one, and it has what it had.
func wantNone(t *testing.T, c *Cache, p string) {
	t.Helper()
	places, used := c.Places(), c.Used()
	text, err := c.Get(p)
	wantErrno(t, err, api.ErrNone, "Get", p)
	if text != "" {
		t.Errorf("Get(%q): got %q with an error", p, text)
	}
	wantHolds(t, c, used, places...)
	wantErrno(t, c.Drop(p), api.ErrNone, "Drop", p)
	wantHolds(t, c, used, places...)
}

// numbered gives so many places of four letters, at most 125000, none of them twice.
func numbered(n int) []string {
	var l []string
	for i := range n {
		stem := string([]byte{'b' + byte(i/(25*25)%25), 'b' + byte(i/25%25), 'b' + byte(i%25)})
		l = append(l, stem+string([]byte{'b' + byte(i/(25*25*25))}))
	}
	return l
}

func TestNew(t *testing.T) {
	for _, budget := range []int{1, 2, 3, 100, 255, 256, 4096, 9999, 10000} {
		c := newCache(t, budget)
		wantHolds(t, c, 0)
		wantNone(t, c, "")
		wantNone(t, c, "hb")
		// The budget is just what was asked for.
		load(t, c, "hb", strings.Repeat("x", budget))
		wantRefused(t, c, "nb", strings.Repeat("x", budget+1), api.ErrFull)
		wantHolds(t, c, budget, "hb")
	}
}

func TestNewOfWrongNumbers(t *testing.T) {
	for _, budget := range []int{0, -1, -2, -10000, math.MinInt, math.MinInt + 1, 10001, 10002, 1 << 16, 1<<32 + 1, 1 << 62, math.MaxInt} {
		c, err := New(budget)
		wantErrno(t, err, api.ErrRange, "New", budget)
		if c != nil {
			t.Errorf("New(%d) gives a Cache with an error", budget)
		}
	}
}

func TestLoad(t *testing.T) {
	c := newCache(t, 10)
	load(t, c, "nb", "abc")
	wantHolds(t, c, 3, "nb")
	load(t, c, "", "de")
	wantHolds(t, c, 5, "nb", "")
	load(t, c, "hb", "fghij") // the budget, to the letter
	wantHolds(t, c, 10, "nb", "", "hb")
	wantTexts(t, c, entry{"nb", "abc"}, entry{"", "de"}, entry{"hb", "fghij"})
}

// All that Check takes are places, and so is the empty one.
func TestLoadOfPlaces(t *testing.T) {
	c := newCache(t, 100)
	l := []string{"", "bb", "hb", "hc", "hi", "zi", "abb", "aabb", "zzb", "hbb", "iii", "aaaaaaaaaabb", "zzzzzzzzzzzi"}
	var want []entry
	for i, p := range l {
		text := fmt.Sprint("t", i)
		load(t, c, p, text)
		want = append(want, entry{p, text})
	}
	wantTexts(t, c, want...)
}

// Only what stands to the letter is the same place.
func TestPlacesThatAreNearEachOther(t *testing.T) {
	c := loaded(t, 20, entry{"hb", "a"}, entry{"hbb", "b"}, entry{"hc", "c"}, entry{"", "d"})
	for _, p := range []string{"hd", "bb", "hbbb", "b", "h"} {
		wantNone(t, c, p)
	}
	drop(t, c, "hb")
	wantTexts(t, c, entry{"hbb", "b"}, entry{"hc", "c"}, entry{"", "d"})
}

// Whatever is wrong with a place, it is none.
func TestLoadOfWrongPlaces(t *testing.T) {
	empty := newCache(t, 5)
	full := loaded(t, 5, entry{"hb", "ab"}, entry{"", ""}, entry{"nb", "cde"})
	faults := map[api.Errno]int{}
	for _, p := range wrongPlaces() {
		faults[plain.Told(place.Check(p))]++
		for _, text := range []string{"", "a", "abcde", "abcdef", strings.Repeat("x", 10001)} {
			wantRefused(t, empty, p, text, api.ErrSyntax)
			wantRefused(t, full, p, text, api.ErrSyntax)
		}
		wantNone(t, empty, p)
		wantNone(t, full, p)
	}
	if faults[api.OK] > 0 || faults[api.ErrFull] == 0 || faults[api.ErrSyntax] == 0 {
		t.Errorf("what Check tells of the wrong places: %v", faults)
	}
	wantTexts(t, full, entry{"hb", "ab"}, entry{"", ""}, entry{"nb", "cde"})
}

func TestLoadOfTooMuch(t *testing.T) {
	for _, budget := range []int{1, 2, 7, 200, 9999, 10000} {
		c := newCache(t, budget)
		fits := strings.Repeat("x", budget)
		for _, more := range []int{1, 2, 100, 1 << 16} {
			wantRefused(t, c, "hb", strings.Repeat("x", budget+more), api.ErrFull)
			wantRefused(t, c, "", strings.Repeat("x", budget+more), api.ErrFull)
		}
		wantNone(t, c, "hb")
		load(t, c, "hb", fits)
		for _, p := range []string{"hb", "", "nb"} {
			wantRefused(t, c, p, fits+"x", api.ErrFull)
		}
		wantTexts(t, c, entry{"hb", fits})
		load(t, c, "", fits)
		wantTexts(t, c, entry{"", fits})
	}
}

// Nothing goes for a Load that is refused, and who goes next is as it was.
func TestLoadThatIsRefused(t *testing.T) {
	c := loaded(t, 5, entry{"hb", "ab"}, entry{"", ""}, entry{"nb", "cd"})
	wantRefused(t, c, "hb", "abcdef", api.ErrFull)
	wantRefused(t, c, "", "abcdef", api.ErrFull)
	wantRefused(t, c, "zb", "abcdef", api.ErrFull)
	wantRefused(t, c, "ha", "abc", api.ErrSyntax)
	wantRefused(t, c, "ha", "abcdef", api.ErrSyntax)
	wantRefused(t, c, "zzzzzzzzzzzzb", "abc", api.ErrSyntax)
	wantTexts(t, c, entry{"hb", "ab"}, entry{"", ""}, entry{"nb", "cd"})
	load(t, c, "zb", "xy")
	wantTexts(t, c, entry{"", ""}, entry{"nb", "cd"}, entry{"zb", "xy"})
}

// Texts are bytes, and what counts is how many.
func TestLoadOfBytes(t *testing.T) {
	every := ""
	for i := range 256 {
		every += string([]byte{byte(i)})
	}
	c := loaded(t, 270, entry{"hb", every}, entry{"nb", "é"}, entry{"zb", "\x00\xff\n|"}, entry{"zc", "日"})
	wantTexts(t, c, entry{"hb", every}, entry{"nb", "é"}, entry{"zb", "\x00\xff\n|"}, entry{"zc", "日"})
	wantHolds(t, c, 265, "hb", "nb", "zb", "zc")

	small := newCache(t, 3)
	wantRefused(t, small, "hb", "éé", api.ErrFull)
	load(t, small, "hb", "éa")
	load(t, small, "nb", "b")
	wantTexts(t, small, entry{"nb", "b"})
}

// A place that is there stands there once, as the one that was asked for last.
func TestLoadOfAPlaceThatIsThere(t *testing.T) {
	texts := []string{"", "a", "b", "cd", "xyz", "uvwxyz"}
	for _, was := range texts {
		for _, is := range texts {
			for _, p := range []string{"hb", ""} {
				first := loaded(t, 10, entry{p, was}, entry{"nb", "12"}, entry{"zb", "34"})
				load(t, first, p, is)
				wantTexts(t, first, entry{"nb", "12"}, entry{"zb", "34"}, entry{p, is})

				between := loaded(t, 10, entry{"nb", "12"}, entry{p, was}, entry{"zb", "34"})
				load(t, between, p, is)
				wantTexts(t, between, entry{"nb", "12"}, entry{"zb", "34"}, entry{p, is})

				last := loaded(t, 10, entry{"nb", "12"}, entry{"zb", "34"}, entry{p, was})
				load(t, last, p, is)
				wantTexts(t, last, entry{"nb", "12"}, entry{"zb", "34"}, entry{p, is})

				only := loaded(t, 10, entry{p, was})
				load(t, only, p, is)
				load(t, only, p, is)
				wantTexts(t, only, entry{p, is})
				drop(t, only, p)
				wantNone(t, only, p)
				wantHolds(t, only, 0)
			}
		}
	}
}

// The text that was at a place counts no more when its new one is there.
func TestLoadOfAPlaceThatIsThereInAFullCache(t *testing.T) {
	full := func() *Cache { return loaded(t, 6, entry{"hb", "ab"}, entry{"nb", "cd"}, entry{"zb", "ef"}) }

	c := full()
	load(t, c, "hb", "xy") // the same length: nothing goes
	wantTexts(t, c, entry{"nb", "cd"}, entry{"zb", "ef"}, entry{"hb", "xy"})
	load(t, c, "nb", "v")
	wantTexts(t, c, entry{"zb", "ef"}, entry{"hb", "xy"}, entry{"nb", "v"})
	load(t, c, "hb", "uvw") // there was one letter of room
	wantTexts(t, c, entry{"zb", "ef"}, entry{"nb", "v"}, entry{"hb", "uvw"})

	c = full()
	load(t, c, "hb", "xyz") // the oldest is itself asked for: the next one goes
	wantTexts(t, c, entry{"zb", "ef"}, entry{"hb", "xyz"})

	c = full()
	load(t, c, "nb", "wxyz")
	wantTexts(t, c, entry{"zb", "ef"}, entry{"nb", "wxyz"})

	c = full()
	load(t, c, "zb", "wxyz")
	wantTexts(t, c, entry{"nb", "cd"}, entry{"zb", "wxyz"})

	for _, p := range []string{"hb", "nb", "zb"} {
		c = full()
		load(t, c, p, "uvwxyz")
		wantTexts(t, c, entry{p, "uvwxyz"})
	}
}

func TestOneMustGo(t *testing.T) {
	c := loaded(t, 6, entry{"zb", "ab"}, entry{"hb", "cd"}, entry{"nb", "ef"})
	load(t, c, "bb", "g")
	wantTexts(t, c, entry{"hb", "cd"}, entry{"nb", "ef"}, entry{"bb", "g"})
	wantNone(t, c, "zb")
	load(t, c, "cb", "h") // just the budget
	wantTexts(t, c, entry{"hb", "cd"}, entry{"nb", "ef"}, entry{"bb", "g"}, entry{"cb", "h"})
	load(t, c, "zb", "i") // what has gone may come again
	wantTexts(t, c, entry{"nb", "ef"}, entry{"bb", "g"}, entry{"cb", "h"}, entry{"zb", "i"})
}

// The oldest go, one by one, and not one more than must; how long they are, and
// whether another one alone would do, is no matter.
func TestSeveralMustGo(t *testing.T) {
	all := []entry{{"nb", "a"}, {"hb", "bb"}, {"zb", "ccc"}, {"", "d"}, {"bb", "eeeee"}}
	used := 12
	for long := 1; long <= used; long++ {
		c := loaded(t, used, all...)
		text := strings.Repeat("x", long)
		load(t, c, "cb", text)
		room, rest := 0, all
		for room < long {
			room += len(rest[0].text)
			wantNone(t, c, rest[0].place)
			rest = rest[1:]
		}
		wantTexts(t, c, append(slices.Clone(rest), entry{"cb", text})...)
	}
}

func TestAllOthersMustGo(t *testing.T) {
	c := newCache(t, 30)
	for _, p := range numbered(30) {
		load(t, c, p, "x")
	}
	wantHolds(t, c, 30, numbered(30)...)
	load(t, c, "", strings.Repeat("y", 30))
	wantTexts(t, c, entry{"", strings.Repeat("y", 30)})
	for _, p := range numbered(30) {
		wantNone(t, c, p)
	}
	load(t, c, "hb", "z")
	wantTexts(t, c, entry{"hb", "z"})
}

// A budget of one letter: there is one text, and those that are empty.
func TestOneLetter(t *testing.T) {
	c := loaded(t, 1, entry{"hb", "a"})
	wantRefused(t, c, "nb", "bc", api.ErrFull)
	load(t, c, "nb", "b")
	wantTexts(t, c, entry{"nb", "b"})
	load(t, c, "hb", "")
	wantTexts(t, c, entry{"nb", "b"}, entry{"hb", ""})
	load(t, c, "zb", "c")
	wantTexts(t, c, entry{"hb", ""}, entry{"zb", "c"})
	load(t, c, "hb", "d")
	wantTexts(t, c, entry{"hb", "d"})
}

// An empty text counts no letter: it goes in its turn, and no sooner.
func TestEmptyTexts(t *testing.T) {
	c := loaded(t, 4, entry{"hb", ""}, entry{"nb", "ab"}, entry{"zb", ""}, entry{"", "cd"}, entry{"bb", ""})
	wantTexts(t, c, entry{"hb", ""}, entry{"nb", "ab"}, entry{"zb", ""}, entry{"", "cd"}, entry{"bb", ""})
	load(t, c, "cb", "") // a full Cache has room for it, and none goes
	wantTexts(t, c, entry{"hb", ""}, entry{"nb", "ab"}, entry{"zb", ""}, entry{"", "cd"}, entry{"bb", ""}, entry{"cb", ""})
	load(t, c, "db", "x") // the first goes, though that makes no room, then the next; zb's turn does not come
	wantTexts(t, c, entry{"zb", ""}, entry{"", "cd"}, entry{"bb", ""}, entry{"cb", ""}, entry{"db", "x"})
	load(t, c, "eb", "yz")
	wantTexts(t, c, entry{"bb", ""}, entry{"cb", ""}, entry{"db", "x"}, entry{"eb", "yz"})
	wantNone(t, c, "zb")
	wantGet(t, c, "bb", "") // asked for again: its turn comes later
	load(t, c, "fb", "uvw")
	wantTexts(t, c, entry{"bb", ""}, entry{"fb", "uvw"})
	drop(t, c, "fb")
	wantHolds(t, c, 0, "bb")
	drop(t, c, "bb")
	wantHolds(t, c, 0)
}

// There is no bound to how many are empty; they may go at once.
func TestManyEmptyTexts(t *testing.T) {
	l := numbered(50000)
	c := loaded(t, 2, entry{"", "a"})
	for _, p := range l {
		load(t, c, p, "")
	}
	wantHolds(t, c, 1, append([]string{""}, l...)...)
	wantGet(t, c, "", "a")
	load(t, c, "hb", "b")
	wantHolds(t, c, 2, append(slices.Clone(l), "", "hb")...)
	load(t, c, "nb", "c")
	wantTexts(t, c, entry{"hb", "b"}, entry{"nb", "c"})
}

// As many as a budget may be, of one letter each.
func TestTheGreatestBudget(t *testing.T) {
	l := numbered(10001)
	c := newCache(t, 10000)
	for _, p := range l[:10000] {
		load(t, c, p, "x")
	}
	wantHolds(t, c, 10000, l[:10000]...)
	load(t, c, l[10000], "y")
	wantHolds(t, c, 10000, l[1:]...)
	wantNone(t, c, l[0])
	load(t, c, l[0], strings.Repeat("z", 10000))
	wantTexts(t, c, entry{l[0], strings.Repeat("z", 10000)})
}

func TestGet(t *testing.T) {
	c := loaded(t, 6, entry{"hb", "ab"}, entry{"", "cd"}, entry{"nb", "ef"})
	wantGet(t, c, "nb", "ef") // the last one stays where it is
	wantHolds(t, c, 6, "hb", "", "nb")
	wantGet(t, c, "", "cd")
	wantHolds(t, c, 6, "hb", "nb", "")
	wantGet(t, c, "hb", "ab")
	wantHolds(t, c, 6, "nb", "", "hb")
	wantGet(t, c, "hb", "ab") // it is told as often as it is asked for
	wantHolds(t, c, 6, "nb", "", "hb")

	only := loaded(t, 1, entry{"hb", "a"})
	wantGet(t, only, "hb", "a")
	wantGet(t, only, "hb", "a")
	wantTexts(t, only, entry{"hb", "a"})
}

// A Get changes who goes next.
func TestGetKeepsOneFromGoing(t *testing.T) {
	c := loaded(t, 3, entry{"hb", "a"}, entry{"nb", "b"}, entry{"zb", "c"})
	wantGet(t, c, "hb", "a")
	load(t, c, "bb", "d")
	wantTexts(t, c, entry{"zb", "c"}, entry{"hb", "a"}, entry{"bb", "d"})
	wantGet(t, c, "zb", "c")
	wantGet(t, c, "hb", "a")
	load(t, c, "cb", "ef")
	wantTexts(t, c, entry{"hb", "a"}, entry{"cb", "ef"})
}

// A Get that is refused changes nothing, also not who goes next.
func TestGetOfNone(t *testing.T) {
	c := newCache(t, 3)
	for _, p := range append(wrongPlaces(), "", "hb", "zzi") {
		wantNone(t, c, p)
	}
	load(t, c, "hb", "a")
	load(t, c, "nb", "b")
	load(t, c, "zb", "c")
	drop(t, c, "nb")
	load(t, c, "bb", "de") // hb goes
	for _, p := range append(wrongPlaces(), "", "hb", "nb", "zzi") {
		wantNone(t, c, p)
	}
	wantTexts(t, c, entry{"zb", "c"}, entry{"bb", "de"})
	load(t, c, "cb", "f")
	wantTexts(t, c, entry{"bb", "de"}, entry{"cb", "f"})
}

func TestDrop(t *testing.T) {
	all := []entry{{"nb", "a"}, {"", "bb"}, {"hb", ""}, {"zb", "ccc"}, {"bb", "d"}}
	for i, e := range all {
		c := loaded(t, 7, all...)
		drop(t, c, e.place)
		rest := slices.Delete(slices.Clone(all), i, i+1)
		wantNone(t, c, e.place)
		wantTexts(t, c, rest...)
		// What was dropped is loaded again as the last one, and there is room for it.
		load(t, c, e.place, e.text)
		wantTexts(t, c, append(rest, e)...)
	}
}

func TestDropOfAllOneByOne(t *testing.T) {
	all := []entry{{"nb", "a"}, {"", "bb"}, {"hb", ""}, {"zb", "ccc"}}
	r := rand.New(rand.NewSource(1))
	for range 50 {
		c := loaded(t, 6, all...)
		rest := slices.Clone(all)
		for len(rest) > 0 {
			i := r.Intn(len(rest))
			drop(t, c, rest[i].place)
			wantNone(t, c, rest[i].place)
			rest = slices.Delete(rest, i, i+1)
			wantTexts(t, c, rest...)
		}
		load(t, c, "hb", "abcdef")
		wantTexts(t, c, entry{"hb", "abcdef"})
	}
}

// What was dropped makes room, so that less must go.
func TestDropMakesRoom(t *testing.T) {
	c := loaded(t, 4, entry{"hb", "a"}, entry{"nb", "bc"}, entry{"zb", "d"})
	drop(t, c, "nb")
	load(t, c, "bb", "ef")
	wantTexts(t, c, entry{"hb", "a"}, entry{"zb", "d"}, entry{"bb", "ef"})
	drop(t, c, "hb")
	load(t, c, "cb", "gh")
	wantTexts(t, c, entry{"bb", "ef"}, entry{"cb", "gh"})
	load(t, c, "hb", "i") // it does not come back to its old turn
	wantTexts(t, c, entry{"cb", "gh"}, entry{"hb", "i"})
}

func TestDroppedAndLoadedAgain(t *testing.T) {
	for _, text := range []string{"", "a", "xyz", "vwxyz"} {
		c := loaded(t, 9, entry{"hb", "abc"}, entry{"nb", "1"})
		for range 3 {
			drop(t, c, "hb")
			wantHolds(t, c, 1, "nb")
			load(t, c, "hb", text)
			wantTexts(t, c, entry{"nb", "1"}, entry{"hb", text})
		}
	}
}

func TestWhatPlacesGaveIsTheCallersOwn(t *testing.T) {
	c := newCache(t, 5)
	all := numbered(40)
	for i, p := range all {
		text := []string{"", "a", "b"}[i%3]
		load(t, c, p, text)
		first, second := c.Places(), c.Places()
		was := slices.Clone(second)
		for j := range first[:cap(first)] {
			first[:cap(first)][j] = "zi"
		}
		_ = append(first, "zi")
		if !slices.Equal(second, was) {
			t.Fatalf("what another Places gave is now %q", second)
		}
		wantHolds(t, c, c.Used(), was...)
		// Later calls do not write into it either.
		wantGet(t, c, p, text)
		if i%4 == 0 {
			drop(t, c, c.Places()[0])
		}
		if !slices.Equal(second, was) {
			t.Fatalf("what was given is now %q", second)
		}
		_ = append(second, "zi")
	}
}

// Two Caches have nothing in common.
func TestCachesBesideEachOther(t *testing.T) {
	a, b := newCache(t, 3), newCache(t, 6)
	load(t, a, "hb", "abc")
	wantHolds(t, b, 0)
	wantNone(t, b, "hb")
	load(t, b, "hb", "xyz")
	load(t, b, "nb", "uvw")
	wantTexts(t, a, entry{"hb", "abc"})
	drop(t, b, "hb")
	wantTexts(t, a, entry{"hb", "abc"})
	load(t, a, "zb", "q")
	wantTexts(t, b, entry{"nb", "uvw"})
	wantTexts(t, a, entry{"zb", "q"})
}

// model of a Cache: a plain list, from the one that was asked for the longest
// time ago.
type model struct {
	budget int
	list   []entry
}

func (m *model) used() int {
	n := 0
	for _, e := range m.list {
		n += len(e.text)
	}
	return n
}

func (m *model) places() []string {
	var l []string
	for _, e := range m.list {
		l = append(l, e.place)
	}
	return l
}

// take out what is at a place.
func (m *model) take(p string) (string, error) {
	for i, e := range m.list {
		if e.place == p {
			m.list = append(slices.Clone(m.list[:i]), m.list[i+1:]...)
			return e.text, nil
		}
	}
	return "", api.ErrNone
}

func (m *model) load(p, text string) error {
	if p != "" && place.Check(p) != nil {
		return api.ErrSyntax
	}
	if len(text) > m.budget {
		return api.ErrFull
	}
	m.take(p)
	m.list = append(m.list, entry{p, text})
	for m.used() > m.budget {
		m.list = m.list[1:]
	}
	return nil
}

func (m *model) get(p string) (string, error) {
	text, err := m.take(p)
	if err == nil {
		m.list = append(m.list, entry{p, text})
	}
	return text, err
}

func anyPlace(r *rand.Rand, many int) string {
	if r.Intn(20) == 0 {
		l := wrongPlaces()
		return l[r.Intn(len(l))]
	}
	if r.Intn(many) == 0 {
		return ""
	}
	return numbered(many)[r.Intn(many)]
}

// anyText is mostly short, so that many stand beside each other.
func anyText(r *rand.Rand, budget int) string {
	long := r.Intn(budget/4 + 2)
	switch r.Intn(12) {
	case 0:
		long = budget + 1 + r.Intn(2)
	case 1:
		long = budget
	case 2:
		long = r.Intn(budget + 1)
	case 3, 4:
		long = 0
	}
	return strings.Repeat(string([]byte{byte('a' + r.Intn(26))}), long)
}

// step does one thing to both, and tells how they differ, if they do.
func step(r *rand.Rand, c *Cache, m *model, many int) string {
	p := anyPlace(r, many)
	switch r.Intn(9) {
	case 0:
		_, want := m.take(p)
		if err := c.Drop(p); !errors.Is(err, want) {
			return fmt.Sprintf("Drop(%q): got %v, want %v", p, err, want)
		}
	case 1, 2, 3:
		text, err := c.Get(p)
		if want, wrong := m.get(p); text != want || !errors.Is(err, wrong) {
			return fmt.Sprintf("Get(%q): got %q, %v, want %q, %v", p, text, err, want, wrong)
		}
	default:
		text := anyText(r, m.budget)
		if err, want := c.Load(p, text), m.load(p, text); !errors.Is(err, want) {
			return fmt.Sprintf("Load(%q, %q): got %v, want %v", p, text, err, want)
		}
	}
	if got := c.Places(); !slices.Equal(got, m.places()) || c.Used() != m.used() {
		return fmt.Sprintf("Places %q, Used %d, want %q, %d", got, c.Used(), m.places(), m.used())
	}
	return ""
}

func TestLongPlay(t *testing.T) {
	for seed := range 200 {
		r := rand.New(rand.NewSource(int64(seed)))
		budget, many := 1+r.Intn(12), 1+r.Intn(8)
		if seed%4 == 0 {
			budget, many = 1+r.Intn(10000), 1+r.Intn(30)
		}
		c, m := newCache(t, budget), &model{budget: budget}
		for i := range 600 {
			if wrong := step(r, c, m, many); wrong != "" {
				t.Fatalf("seed %d, budget %d, step %d: %s", seed, budget, i, wrong)
			}
		}
		wantTexts(t, c, m.list...)
	}
}

// The same calls are answered the same, whatever else goes on.
func TestTheSameCallsAreAnsweredTheSame(t *testing.T) {
	play := func() []string {
		r := rand.New(rand.NewSource(7))
		c := newCache(t, 9)
		var told []string
		for range 300 {
			p, text := anyPlace(r, 6), anyText(r, 9)
			got, bad := c.Get(p)
			told = append(told, fmt.Sprint(c.Load(p, text), got, bad, c.Places(), c.Used()))
		}
		return told
	}
	first := play()
	for range 5 {
		if !slices.Equal(first, play()) {
			t.Fatal("two plays of the same calls differ")
		}
	}
}
