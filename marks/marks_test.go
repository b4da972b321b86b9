package marks

import (
	"errors"
	"math"
	"slices"
	"strings"
	"testing"

	"leafbinder/api"
	"leafbinder/dot"
)

const tooLong = "zzzzzzzzzzzzb"

// some has a place with many cuts, one that begins with it, and two with one
// cut; the dots of one place stand at others, too.
var some = []api.Mark{
	{Place: "bb", Dot: api.Dot{Who: 2, N: 9}},
	{Place: "hb", Dot: api.Dot{Who: 1, N: 2}},
	{Place: "hb", Dot: api.Dot{Who: 1, N: 10}},
	{Place: "hb", Dot: api.Dot{Who: 2, N: 1}},
	{Place: "hb", Dot: api.Dot{Who: 8, N: 9999}},
	{Place: "hbb", Dot: api.Dot{Who: 1, N: 2}},
	{Place: "hbb", Dot: api.Dot{Who: 3, N: 7}},
	{Place: "zi", Dot: api.Dot{Who: 1, N: 1}},
}

var wrongPlaces = []struct {
	p    string
	want api.Errno
}{
	{"", api.ErrSyntax},
	{"b", api.ErrSyntax},
	{"ha", api.ErrSyntax},
	{"ab", api.ErrSyntax},
	{"h\xffb", api.ErrSyntax},
	{tooLong, api.ErrFull},
	{strings.Repeat("?", 1000), api.ErrFull},
}

var wrongDots = []api.Dot{
	{},
	{Who: 0, N: 1},
	{Who: 9, N: 1},
	{Who: -1, N: 1},
	{Who: 1, N: 0},
	{Who: 1, N: -1},
	{Who: 1, N: 10000},
	{Who: math.MinInt, N: math.MinInt},
	{Who: math.MaxInt, N: math.MaxInt},
}

func mark(p string, who, n int) api.Mark {
	return api.Mark{Place: p, Dot: api.Dot{Who: who, N: n}}
}

// many gives so many marks, ten a place, from bb on.
func many(n int) []api.Mark {
	var l []api.Mark
	for i := range n {
		p := string([]byte{byte('b' + i/10), 'b'})
		l = append(l, mark(p, 1+i%10/5, 1+i%5))
	}
	return l
}

// points gives so many dots that rise, five of an author.
func points(n int) []api.Dot {
	var l []api.Dot
	for i := range n {
		l = append(l, api.Dot{Who: 1 + i/5, N: 1 + i%5})
	}
	return l
}

type wrongList[T any] struct {
	name string
	l    []T
	want api.Errno
}

// wrongMarks are lists that no marks may be, with what is wrong with them.
func wrongMarks() []wrongList[api.Mark] {
	hb := mark("hb", 2, 2)
	lists := []wrongList[api.Mark]{
		{"41 marks", append(many(40), mark("zb", 1, 1)), api.ErrFull},
		{"41 wrong marks", make([]api.Mark, 41), api.ErrFull},
		{"1000 marks", make([]api.Mark, 1000), api.ErrFull},
		{"an empty mark", []api.Mark{{}}, api.ErrSyntax},
		{"a wrong place at last", append(many(39), mark("za", 1, 1)), api.ErrSyntax},
		{"a wrong dot at last", append(many(39), mark("zb", 1, 0)), api.ErrRange},
		// Not rising, by each of the three.
		{"a mark twice", []api.Mark{hb, hb}, api.ErrClash},
		{"places that fall", []api.Mark{hb, mark("bb", 2, 2)}, api.ErrClash},
		{"places that fall, dots that rise", []api.Mark{hb, mark("bb", 3, 3)}, api.ErrClash},
		{"a beginning behind", []api.Mark{mark("hbb", 2, 2), hb}, api.ErrClash},
		{"authors that fall", []api.Mark{hb, mark("hb", 1, 2)}, api.ErrClash},
		{"authors that fall, numbers that rise", []api.Mark{hb, mark("hb", 1, 3)}, api.ErrClash},
		{"numbers that fall", []api.Mark{hb, mark("hb", 2, 1)}, api.ErrClash},
		{"the last ones fall", append(many(39), mark("eb", 1, 1)), api.ErrClash},
		// Of one mark the fault that is named first.
		{"place, dot", []api.Mark{mark("ha", 0, 0)}, api.ErrSyntax},
		{"long place, dot", []api.Mark{mark(tooLong, 0, 0)}, api.ErrFull},
		{"place, falls", []api.Mark{hb, mark("ab", 2, 2)}, api.ErrSyntax},
		{"long place, falls", []api.Mark{hb, mark("bbbbbbbbbbbbb", 2, 2)}, api.ErrFull},
		{"dot, falls", []api.Mark{hb, mark("bb", 9, 2)}, api.ErrRange},
		{"dot that falls", []api.Mark{hb, mark("hb", 2, 0)}, api.ErrRange},
		// Of several marks the first that has one.
		{"falls, then place", []api.Mark{hb, hb, mark("za", 1, 1)}, api.ErrClash},
		{"falls, then dot", []api.Mark{hb, hb, mark("zb", 1, 0)}, api.ErrClash},
		{"dot, then place", []api.Mark{mark("hb", 0, 1), mark("za", 1, 1)}, api.ErrRange},
		{"dot, then falls", []api.Mark{mark("hb", 1, 10000), hb, hb}, api.ErrRange},
		{"place, then long place", []api.Mark{mark("ha", 1, 1), mark(tooLong, 1, 1)}, api.ErrSyntax},
		{"long place, then place", []api.Mark{mark(tooLong, 1, 1), mark("za", 1, 1)}, api.ErrFull},
	}
	for _, c := range wrongPlaces {
		lists = append(lists, wrongList[api.Mark]{"a wrong place", []api.Mark{mark(c.p, 1, 1)}, c.want})
	}
	for _, d := range wrongDots {
		lists = append(lists, wrongList[api.Mark]{"a wrong dot", []api.Mark{{Place: "hb", Dot: d}}, api.ErrRange})
	}
	return lists
}

// wrongSeen are lists of dots that can't have been seen.
func wrongSeen() []wrongList[api.Dot] {
	two := api.Dot{Who: 2, N: 2}
	lists := []wrongList[api.Dot]{
		{"41 dots", append(points(40), api.Dot{Who: 8, N: 9999}), api.ErrFull},
		{"41 wrong dots", make([]api.Dot, 41), api.ErrFull},
		{"40 wrong dots", make([]api.Dot, 40), api.ErrRange},
		{"a wrong dot at last", append(points(39), api.Dot{Who: 9, N: 1}), api.ErrRange},
		{"a dot twice", []api.Dot{two, two}, api.ErrClash},
		{"authors that fall", []api.Dot{two, {Who: 1, N: 2}}, api.ErrClash},
		{"authors that fall, numbers that rise", []api.Dot{two, {Who: 1, N: 3}}, api.ErrClash},
		{"numbers that fall", []api.Dot{two, {Who: 2, N: 1}}, api.ErrClash},
		{"the last ones fall", append(points(39), api.Dot{Who: 8, N: 3}), api.ErrClash},
		{"dot that falls", []api.Dot{two, {Who: 2, N: 0}}, api.ErrRange},
		{"the first ones fall", append([]api.Dot{two}, points(39)...), api.ErrClash},
		// A dot's own fault, wherever it stands, is told ahead of not rising,
		// which is a fault of them all.
		{"dot, then falls", []api.Dot{{Who: 0, N: 1}, two, two}, api.ErrRange},
		{"twice, then author", []api.Dot{two, two, {Who: 9, N: 1}}, api.ErrRange},
		{"twice, then number", []api.Dot{two, two, {Who: 2, N: 10000}}, api.ErrRange},
		{"authors that fall, then author", []api.Dot{two, {Who: 1, N: 2}, {Who: -1, N: 4}}, api.ErrRange},
		{"numbers that fall, then number", []api.Dot{two, {Who: 2, N: 1}, {Who: 3, N: 0}}, api.ErrRange},
		{"falls, then a wrong dot at last", append(append([]api.Dot{two}, points(38)...), api.Dot{Who: 8, N: 10000}), api.ErrRange},
		{"41 dots that fall", append([]api.Dot{two}, points(40)...), api.ErrFull},
	}
	for _, d := range wrongDots {
		lists = append(lists, wrongList[api.Dot]{"twice, then a wrong dot", []api.Dot{two, two, d}, api.ErrRange})
	}
	for _, d := range wrongDots {
		lists = append(lists, wrongList[api.Dot]{"a wrong dot", []api.Dot{d}, api.ErrRange})
	}
	return lists
}

func wantError(t *testing.T, err error, want api.Errno, call string, args ...any) {
	t.Helper()
	var e api.Errno
	if !errors.As(err, &e) || e != want {
		t.Errorf("%s of %v: error %v, want %v", call, args, err, want)
	}
}

func wantCutRefused(t *testing.T, l []api.Mark, m api.Mark, want api.Errno) {
	t.Helper()
	out, err := Cut(l, m)
	wantError(t, err, want, "Cut", l, m)
	if len(out) != 0 {
		t.Errorf("Cut(%v, %v) = %v with an error", l, m, out)
	}
}

func wantJoinRefused(t *testing.T, l []api.Mark, p string, seen []api.Dot, want api.Errno) {
	t.Helper()
	out, err := Join(l, p, seen)
	wantError(t, err, want, "Join", l, p, seen)
	if len(out) != 0 {
		t.Errorf("Join(%v, %q, %v) = %v with an error", l, p, seen, out)
	}
}

func wantSeenRefused(t *testing.T, l []api.Mark, p string, want api.Errno) {
	t.Helper()
	dots, err := Seen(l, p)
	wantError(t, err, want, "Seen", l, p)
	if len(dots) != 0 {
		t.Errorf("Seen(%v, %q) = %v with an error", l, p, dots)
	}
}

func TestCheckOfMarks(t *testing.T) {
	for _, l := range [][]api.Mark{
		nil,
		{},
		some,
		many(1),
		many(39),
		many(40),
		{mark("hb", 1, 1)},
		{mark("hb", 8, 9999)},
		{mark("bbbbbbbbbbbb", 1, 1)},
		// By Place, then Who, then N: what comes first outweighs the others.
		{mark("hb", 8, 9999), mark("hbb", 1, 1), mark("hc", 1, 1)},
		{mark("hb", 1, 9999), mark("hb", 2, 1)},
		{mark("hb", 2, 9), mark("hb", 2, 10)},
	} {
		if err := Check(l); err != nil {
			t.Errorf("Check(%v): %v", l, err)
		}
	}
}

func TestWrongMarksAreRefused(t *testing.T) {
	for _, c := range wrongMarks() {
		wantError(t, Check(c.l), c.want, "Check", c.name)
		places, err := Places(c.l)
		wantError(t, err, c.want, "Places", c.name)
		if len(places) != 0 {
			t.Errorf("%s: Places = %v with an error", c.name, places)
		}
		// What is wrong with the marks is told ahead of all else.
		for _, p := range []string{"hb", "zzi", "", "ha", tooLong} {
			wantSeenRefused(t, c.l, p, c.want)
			wantCutRefused(t, c.l, mark(p, 1, 1), c.want)
			wantCutRefused(t, c.l, mark(p, 0, 0), c.want)
			wantJoinRefused(t, c.l, p, nil, c.want)
			for _, s := range wrongSeen() {
				wantJoinRefused(t, c.l, p, s.l, c.want)
			}
		}
	}
}

func TestWrongPlacesAreRefused(t *testing.T) {
	for _, l := range [][]api.Mark{nil, some, many(40)} {
		for _, c := range wrongPlaces {
			wantSeenRefused(t, l, c.p, c.want)
			wantCutRefused(t, l, mark(c.p, 1, 1), c.want)
			wantJoinRefused(t, l, c.p, nil, c.want)
			wantJoinRefused(t, l, c.p, points(40), c.want)
			// The place's fault is told ahead of the dots'.
			wantCutRefused(t, l, mark(c.p, 9, 0), c.want)
			for _, s := range wrongSeen() {
				wantJoinRefused(t, l, c.p, s.l, c.want)
			}
		}
	}
}

func TestWrongDotsAreRefused(t *testing.T) {
	for _, l := range [][]api.Mark{nil, some, many(40)} {
		for _, p := range []string{"bb", "hb", "zzi"} {
			for _, d := range wrongDots {
				wantCutRefused(t, l, api.Mark{Place: p, Dot: d}, api.ErrRange)
			}
			for _, s := range wrongSeen() {
				wantJoinRefused(t, l, p, s.l, s.want)
			}
		}
	}
}

// inserted gives marks with one more.
func inserted(l []api.Mark, i int, m api.Mark) []api.Mark {
	more := append([]api.Mark{}, l[:i]...)
	return append(append(more, m), l[i:]...)
}

func TestCut(t *testing.T) {
	for _, c := range []struct {
		l  []api.Mark
		m  api.Mark
		at int
	}{
		{nil, mark("hb", 1, 1), 0},
		{[]api.Mark{}, mark("hb", 8, 9999), 0},
		{some, mark("abb", 8, 9999), 0},
		{some, mark("bb", 1, 9999), 0},
		{some, mark("bb", 2, 8), 0},
		{some, mark("bb", 2, 10), 1},
		{some, mark("hb", 1, 1), 1},
		{some, mark("hb", 1, 9), 2},
		{some, mark("hb", 1, 9999), 3},
		{some, mark("hb", 3, 1), 4},
		{some, mark("hb", 8, 9998), 4},
		{some, mark("hbabb", 1, 1), 5},
		{some, mark("hbb", 2, 1), 6},
		{some, mark("hbb", 8, 1), 7},
		{some, mark("zi", 1, 2), 8},
		{some, mark("zzi", 1, 1), 8},
		{many(39), mark("abb", 1, 1), 0},
		{many(39), mark("zb", 1, 1), 39},
	} {
		want := inserted(c.l, c.at, c.m)
		if l, err := Cut(c.l, c.m); !slices.Equal(l, want) || err != nil {
			t.Errorf("Cut(%v, %v) = %v, %v, want %v", c.l, c.m, l, err, want)
		}
	}
}

func TestCutThatIsThere(t *testing.T) {
	for _, l := range [][]api.Mark{some, many(1), many(39), many(40)} {
		for _, m := range l {
			if same, err := Cut(l, m); !slices.Equal(same, l) || err != nil {
				t.Errorf("Cut(%v, %v) = %v, %v", l, m, same, err)
			}
		}
	}
}

func TestCutOfFullMarks(t *testing.T) {
	for _, m := range []api.Mark{
		mark("abb", 1, 1),
		mark("bb", 1, 6),
		mark("cb", 3, 1),
		mark("cbb", 1, 1),
		mark("zi", 8, 9999),
	} {
		wantCutRefused(t, many(40), m, api.ErrFull)
	}
}

// without gives marks but for those that stand there.
func without(l []api.Mark, at ...int) []api.Mark {
	var left []api.Mark
	for i, m := range l {
		if !slices.Contains(at, i) {
			left = append(left, m)
		}
	}
	return left
}

func TestJoin(t *testing.T) {
	for _, c := range []struct {
		l    []api.Mark
		p    string
		seen []api.Dot
		gone []int
	}{
		{nil, "hb", nil, nil},
		{nil, "hb", points(40), nil},
		{some, "hb", nil, nil},
		{some, "hb", []api.Dot{}, nil},
		// Some of the cuts were seen, and some not.
		{some, "hb", []api.Dot{{Who: 1, N: 2}}, []int{1}},
		{some, "hb", []api.Dot{{Who: 1, N: 10}, {Who: 2, N: 1}}, []int{2, 3}},
		{some, "hb", []api.Dot{{Who: 1, N: 2}, {Who: 8, N: 9999}}, []int{1, 4}},
		{some, "hb", []api.Dot{{Who: 1, N: 2}, {Who: 1, N: 10}, {Who: 2, N: 1}, {Who: 8, N: 9999}}, []int{1, 2, 3, 4}},
		// What was seen need not be there, nor at that place.
		{some, "hb", []api.Dot{{Who: 1, N: 1}, {Who: 1, N: 3}, {Who: 2, N: 2}, {Who: 8, N: 1}}, nil},
		{some, "hb", []api.Dot{{Who: 1, N: 1}, {Who: 2, N: 9}, {Who: 3, N: 7}}, nil},
		{some, "hbb", []api.Dot{{Who: 1, N: 2}, {Who: 2, N: 1}}, []int{5}},
		{some, "bb", []api.Dot{{Who: 2, N: 9}}, []int{0}},
		{some, "zi", []api.Dot{{Who: 1, N: 1}}, []int{7}},
		// A place that has none.
		{some, "hc", []api.Dot{{Who: 1, N: 1}, {Who: 1, N: 2}, {Who: 2, N: 9}}, nil},
		{some, "zzi", points(40), nil},
		{many(1), "bb", points(40), []int{0}},
		{many(40), "cb", points(40), []int{10, 11, 12, 13, 14, 15, 16, 17, 18, 19}},
		{many(40), "cb", points(39)[5:], []int{15, 16, 17, 18, 19}},
	} {
		want := without(c.l, c.gone...)
		if l, err := Join(c.l, c.p, c.seen); !slices.Equal(l, want) || err != nil {
			t.Errorf("Join(%v, %q, %v) = %v, %v, want %v", c.l, c.p, c.seen, l, err, want)
		}
	}
}

// TestJoinOfFortyCutsAtOnePlace: as many as there may be, all of them seen.
func TestJoinOfFortyCutsAtOnePlace(t *testing.T) {
	var l []api.Mark
	for _, d := range points(40) {
		l = append(l, api.Mark{Place: "hb", Dot: d})
	}
	dots, err := Seen(l, "hb")
	if !slices.Equal(dots, points(40)) || err != nil {
		t.Errorf("Seen = %v, %v", dots, err)
	}
	left, err := Join(l, "hb", dots)
	if len(left) != 0 || err != nil {
		t.Errorf("Join = %v, %v", left, err)
	}
	left, err = Join(l, "hb", dots[:39])
	if !slices.Equal(left, l[39:]) || err != nil {
		t.Errorf("Join of all but one = %v, %v", left, err)
	}
}

func TestPlaces(t *testing.T) {
	for _, c := range []struct {
		l    []api.Mark
		want []string
	}{
		{nil, nil},
		{[]api.Mark{}, nil},
		{some, []string{"bb", "hb", "hbb", "zi"}},
		{some[1:5], []string{"hb"}},
		{some[7:], []string{"zi"}},
		{many(40), []string{"bb", "cb", "db", "eb"}},
	} {
		if places, err := Places(c.l); !slices.Equal(places, c.want) || err != nil {
			t.Errorf("Places(%v) = %v, %v, want %v", c.l, places, err, c.want)
		}
	}
}

func TestSeen(t *testing.T) {
	for _, c := range []struct {
		l    []api.Mark
		p    string
		want []api.Dot
	}{
		{nil, "hb", nil},
		{some, "hb", []api.Dot{{Who: 1, N: 2}, {Who: 1, N: 10}, {Who: 2, N: 1}, {Who: 8, N: 9999}}},
		{some, "hbb", []api.Dot{{Who: 1, N: 2}, {Who: 3, N: 7}}},
		{some, "bb", []api.Dot{{Who: 2, N: 9}}},
		{some, "zi", []api.Dot{{Who: 1, N: 1}}},
		{some, "abb", nil},
		{some, "hbabb", nil},
		{some, "zzi", nil},
		{many(40), "eb", points(10)},
	} {
		if dots, err := Seen(c.l, c.p); !slices.Equal(dots, c.want) || err != nil {
			t.Errorf("Seen(%v, %q) = %v, %v, want %v", c.l, c.p, dots, err, c.want)
		}
	}
}

// model is marks as a set.
type model map[api.Mark]bool

// marks of a model, by going over all that could be there, in order.
func (s model) marks() []api.Mark {
	var l []api.Mark
	for _, p := range modelPlaces {
		for who := 1; who <= 3; who++ {
			for n := 1; n <= 11; n++ {
				if m := mark(p, who, n); s[m] {
					l = append(l, m)
				}
			}
		}
	}
	return l
}

var modelPlaces = []string{"abb", "hb", "hbb", "hc", "zi"}

// dotsAt gives what a model has at a place.
func (s model) dotsAt(p string) []api.Dot {
	var l []api.Dot
	for _, m := range s.marks() {
		if m.Place == p {
			l = append(l, m.Dot)
		}
	}
	return l
}

func (s model) places() []string {
	var l []string
	for _, p := range modelPlaces {
		if len(s.dotsAt(p)) > 0 {
			l = append(l, p)
		}
	}
	return l
}

// TestLongPlay cuts and joins in an order that jumps, and holds the marks to a
// set.
func TestLongPlay(t *testing.T) {
	var l []api.Mark
	s := model{}
	number := uint32(1)
	next := func(below int) int {
		number = number*1664525 + 1013904223
		return int(number>>8) % below
	}
	cuts, joins, full := 0, 0, 0
	for range 6000 {
		p := modelPlaces[next(len(modelPlaces))]
		var got []api.Mark
		var err error
		if next(12) > 0 {
			m := mark(p, 1+next(3), 1+next(11))
			got, err = Cut(l, m)
			if !s[m] && len(s) == api.MaxMarks {
				full++
				wantError(t, err, api.ErrFull, "Cut", l, m)
				continue
			}
			cuts++
			s[m] = true
		} else {
			var seen []api.Dot
			for who := 1; who <= 3; who++ {
				for n := 1; n <= 11; n++ {
					if next(2) == 0 {
						seen = append(seen, api.Dot{Who: who, N: n})
						delete(s, mark(p, who, n))
					}
				}
			}
			got, err = Join(l, p, seen)
			joins++
		}
		if l = got; err != nil || !slices.Equal(l, s.marks()) || Check(l) != nil {
			t.Fatalf("at %q: %v, %v, want %v", p, l, err, s.marks())
		}
		dots, err := Seen(l, p)
		places, bad := Places(l)
		if !slices.Equal(dots, s.dotsAt(p)) || !slices.Equal(places, s.places()) || err != nil || bad != nil {
			t.Fatalf("of %v: %v, %v, %v, %v", l, dots, err, places, bad)
		}
	}
	if cuts < 1000 || joins < 100 || full < 100 {
		t.Errorf("%d cuts, %d joins, %d times full", cuts, joins, full)
	}
}

// TestCutsInWhicheverOrder: the marks are the same then.
func TestCutsInWhicheverOrder(t *testing.T) {
	for step := 1; step < len(some); step += 2 { // has nothing in common with 8
		var l []api.Mark
		for i := range some {
			more, err := Cut(l, some[i*step%len(some)])
			if err != nil {
				t.Fatal(err)
			}
			l = more
		}
		if !slices.Equal(l, some) {
			t.Errorf("by steps of %d: %v", step, l)
		}
	}
}

// TestJoinOfWhatIsSeen takes away a place whole, and nothing else.
func TestJoinOfWhatIsSeen(t *testing.T) {
	places, _ := Places(some)
	for _, p := range places {
		dots, _ := Seen(some, p)
		l, err := Join(some, p, dots)
		left, _ := Places(l)
		want := slices.DeleteFunc(slices.Clone(places), func(other string) bool { return other == p })
		if err != nil || len(l) != len(some)-len(dots) || !slices.Equal(left, want) {
			t.Errorf("without %q: %v, %v", p, l, err)
		}
	}
}

// TestWhatIsSeenIsRightForAJoin at each place of marks that are right.
func TestWhatIsSeenIsRightForAJoin(t *testing.T) {
	for _, l := range [][]api.Mark{some, many(40)} {
		for _, m := range l {
			dots, err := Seen(l, m.Place)
			if err != nil || slices.ContainsFunc(dots, func(d api.Dot) bool { return dot.Check(d) != nil }) {
				t.Errorf("Seen(%v, %q) = %v, %v", l, m.Place, dots, err)
			}
			if _, err := Join(l, m.Place, dots); err != nil {
				t.Errorf("Join(%v, %q, %v): %v", l, m.Place, dots, err)
			}
		}
	}
}

func TestNothingHandedInIsWrittenIntoOrShared(t *testing.T) {
	// Behind the length of the lists lies room, with something in it.
	behind := mark("behind", 77, 77)
	whole := append(slices.Clone(some), behind, behind, behind)
	kept := slices.Clone(whole)
	l := whole[:len(some)]
	wholeSeen := []api.Dot{{Who: 1, N: 2}, {Who: 2, N: 1}, {Who: 2, N: 9}, {Who: 55, N: 5}, {Who: 55, N: 5}}
	keptSeen := slices.Clone(wholeSeen)
	seen := wholeSeen[:3]
	for _, p := range []string{"abb", "bb", "hb", "hbb", "hc", "zi", "zzi"} {
		Check(l)
		again, _ := Join(l, p, seen)
		want := slices.Clone(again)
		fresh, _ := Cut(l, mark(p, 1, 3))
		same, _ := Cut(l, some[3])
		joined, _ := Join(l, p, seen)
		unjoined, _ := Join(l, p, nil)
		for _, out := range [][]api.Mark{fresh, same, joined, unjoined} {
			out = out[:cap(out)]
			for i := range out {
				out[i] = mark("over", 5555, 5555)
			}
		}
		dots, _ := Seen(l, p)
		dots = dots[:cap(dots)]
		for i := range dots {
			dots[i] = api.Dot{Who: 5555, N: 5555}
		}
		places, _ := Places(l)
		places = places[:cap(places)]
		for i := range places {
			places[i] = "over"
		}
		if !slices.Equal(whole, kept) || !slices.Equal(wholeSeen, keptSeen) {
			t.Fatalf("at %q what was handed in is now %v, %v", p, whole, wholeSeen)
		}
		if !slices.Equal(again, want) {
			t.Fatalf("at %q what came out before is now %v", p, again)
		}
	}
}
