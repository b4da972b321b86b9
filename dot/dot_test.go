package dot

import (
	"errors"
	"math"
	"slices"
	"strings"
	"testing"

	"leafbinder/api"
)

var (
	low  = []int{0, 0, 0, 0, 0, 0, 0, 0}
	high = []int{9999, 9999, 9999, 9999, 9999, 9999, 9999, 9999}
	some = []int{0, 1, 2, 3, 9999, 9998, 10, 0}
)

var wrongDots = []api.Dot{
	{},
	{Who: 1, N: 0},
	{Who: 0, N: 1},
	{Who: 9, N: 1},
	{Who: 8, N: 10000},
	{Who: -1, N: 1},
	{Who: 1, N: -1},
	{Who: math.MaxInt, N: 1},
	{Who: math.MinInt, N: 1},
	{Who: 1, N: math.MaxInt},
	{Who: 1, N: math.MinInt},
}

// wrongVectors are lists that are no vectors, with what is wrong with them.
var wrongVectors = []struct {
	v    []int
	want api.Errno
}{
	{nil, api.ErrShape},
	{[]int{}, api.ErrShape},
	{low[:7], api.ErrShape},
	{make([]int, 9), api.ErrShape},
	{make([]int, 1000), api.ErrShape},
	{[]int{-1}, api.ErrShape},
	{[]int{0, 0, 0, 0, 0, 0, 0, 0, 10000}, api.ErrShape},
	{[]int{-1, 0, 0, 0, 0, 0, 0, 0}, api.ErrRange},
	{[]int{0, 0, 0, 0, 0, 0, 0, -1}, api.ErrRange},
	{[]int{10000, 0, 0, 0, 0, 0, 0, 0}, api.ErrRange},
	{[]int{0, 0, 0, 0, 0, 0, 0, 10000}, api.ErrRange},
	{[]int{0, 0, 0, math.MaxInt, 0, 0, 0, 0}, api.ErrRange},
	{[]int{0, 0, 0, math.MinInt, 0, 0, 0, 0}, api.ErrRange},
}

func wantError(t *testing.T, err error, want api.Errno, call string, args ...any) {
	t.Helper()
	var e api.Errno
	if !errors.As(err, &e) || e != want {
		t.Errorf("%s of %v: error %v, want %v", call, args, err, want)
	}
}

// small gives all vectors of which the first three numbers, and the last, are
// from 0 to most.
func small(most int) [][]int {
	var l [][]int
	for i := range (most + 1) * (most + 1) * (most + 1) * (most + 1) {
		v := make([]int, api.MaxWho)
		for _, at := range []int{0, 1, 2, 7} {
			v[at] = i % (most + 1)
			i /= most + 1
		}
		l = append(l, v)
	}
	return l
}

// knows gives the dots that a vector stands for, one by one.
func knows(v []int) map[api.Dot]bool {
	set := map[api.Dot]bool{}
	for i, most := range v {
		for n := 1; n <= most; n++ {
			set[api.Dot{Who: i + 1, N: n}] = true
		}
	}
	return set
}

// within: is each dot of a one of b?
func within(a, b map[api.Dot]bool) bool {
	for d := range a {
		if !b[d] {
			return false
		}
	}
	return true
}

func TestCheck(t *testing.T) {
	for who := 1; who <= api.MaxWho; who++ {
		for _, n := range []int{1, 2, 9998, 9999} {
			if err := Check(api.Dot{Who: who, N: n}); err != nil {
				t.Errorf("Check of %d.%d: %v", who, n, err)
			}
		}
	}
	for _, d := range wrongDots {
		wantError(t, Check(d), api.ErrRange, "Check", d)
	}
}

func TestVector(t *testing.T) {
	for _, v := range [][]int{low, high, some} {
		if err := Vector(v); err != nil {
			t.Errorf("Vector of %v: %v", v, err)
		}
	}
	for _, c := range wrongVectors {
		wantError(t, Vector(c.v), c.want, "Vector", c.v)
	}
}

func TestHasAtTheEdges(t *testing.T) {
	for _, c := range []struct {
		v    []int
		d    api.Dot
		want bool
	}{
		{low, api.Dot{Who: 1, N: 1}, false},
		{low, api.Dot{Who: 8, N: 9999}, false},
		{high, api.Dot{Who: 1, N: 1}, true},
		{high, api.Dot{Who: 8, N: 9999}, true},
		{some, api.Dot{Who: 1, N: 1}, false},
		{some, api.Dot{Who: 4, N: 2}, true},
		{some, api.Dot{Who: 4, N: 3}, true},
		{some, api.Dot{Who: 4, N: 4}, false},
		{some, api.Dot{Who: 5, N: 9999}, true},
		{some, api.Dot{Who: 6, N: 9998}, true},
		{some, api.Dot{Who: 6, N: 9999}, false},
	} {
		if is, err := Has(c.v, c.d); is != c.want || err != nil {
			t.Errorf("Has(%v, %v) = %v, %v, want %v", c.v, c.d, is, err, c.want)
		}
	}
}

func TestAddTheNextOne(t *testing.T) {
	for _, c := range []struct {
		v    []int
		d    api.Dot
		want []int
	}{
		{low, api.Dot{Who: 1, N: 1}, []int{1, 0, 0, 0, 0, 0, 0, 0}},
		{low, api.Dot{Who: 8, N: 1}, []int{0, 0, 0, 0, 0, 0, 0, 1}},
		{some, api.Dot{Who: 4, N: 4}, []int{0, 1, 2, 4, 9999, 9998, 10, 0}},
		{some, api.Dot{Who: 6, N: 9999}, []int{0, 1, 2, 3, 9999, 9999, 10, 0}},
	} {
		if v, err := Add(c.v, c.d); !slices.Equal(v, c.want) || err != nil {
			t.Errorf("Add(%v, %v) = %v, %v, want %v", c.v, c.d, v, err, c.want)
		}
	}
}

func TestAddWhatIsNotTheNextOne(t *testing.T) {
	for _, c := range []struct {
		v    []int
		d    api.Dot
		want api.Errno
	}{
		{some, api.Dot{Who: 4, N: 1}, api.ErrClash},
		{some, api.Dot{Who: 4, N: 3}, api.ErrClash},
		{some, api.Dot{Who: 5, N: 9999}, api.ErrClash},
		{high, api.Dot{Who: 8, N: 9999}, api.ErrClash},
		{low, api.Dot{Who: 1, N: 2}, api.ErrState},
		{low, api.Dot{Who: 8, N: 9999}, api.ErrState},
		{some, api.Dot{Who: 4, N: 5}, api.ErrState},
		{some, api.Dot{Who: 4, N: 9999}, api.ErrState},
	} {
		v, err := Add(c.v, c.d)
		wantError(t, err, c.want, "Add", c.v, c.d)
		if len(v) != 0 {
			t.Errorf("Add(%v, %v) = %v with an error", c.v, c.d, v)
		}
	}
}

// TestHasAndAddAsSets holds vectors to the sets of dots that they stand for.
func TestHasAndAddAsSets(t *testing.T) {
	for _, v := range small(2) {
		set := knows(v)
		for who := 1; who <= api.MaxWho; who++ {
			for n := 1; n <= 5; n++ {
				d := api.Dot{Who: who, N: n}
				if is, err := Has(v, d); is != set[d] || err != nil {
					t.Fatalf("Has(%v, %v) = %v, %v", v, d, is, err)
				}
				got, err := Add(v, d)
				switch {
				case set[d]:
					wantError(t, err, api.ErrClash, "Add", v, d)
				case n > 1 && !set[api.Dot{Who: who, N: n - 1}]:
					wantError(t, err, api.ErrState, "Add", v, d)
				default:
					more := knows(got)
					if err != nil || len(got) != api.MaxWho || len(more) != len(set)+1 || !more[d] || !within(set, more) {
						t.Fatalf("Add(%v, %v) = %v, %v", v, d, got, err)
					}
				}
			}
		}
	}
}

func TestMergeAndCompareByHand(t *testing.T) {
	for _, c := range []struct {
		a, b, all []int
		order     int
		is        bool
	}{
		{low, low, low, 0, true},
		{high, high, high, 0, true},
		{low, high, high, -1, true},
		{high, low, high, 1, true},
		{some, some, some, 0, true},
		{some, high, high, -1, true},
		{some, []int{0, 1, 2, 2, 9999, 9998, 10, 0}, some, 1, true},
		{[]int{0, 1, 2, 3, 9999, 9998, 9, 0}, some, some, -1, true},
		{
			[]int{1, 0, 0, 0, 0, 0, 0, 0},
			[]int{0, 0, 0, 0, 0, 0, 0, 1},
			[]int{1, 0, 0, 0, 0, 0, 0, 1}, 0, false,
		},
		{
			[]int{0, 0, 0, 0, 0, 0, 0, 9999},
			[]int{9999, 0, 0, 0, 0, 0, 0, 9998},
			[]int{9999, 0, 0, 0, 0, 0, 0, 9999}, 0, false,
		},
	} {
		if all, err := Merge(c.a, c.b); !slices.Equal(all, c.all) || err != nil {
			t.Errorf("Merge(%v, %v) = %v, %v, want %v", c.a, c.b, all, err, c.all)
		}
		if order, is, err := Compare(c.a, c.b); order != c.order || is != c.is || err != nil {
			t.Errorf("Compare(%v, %v) = %d, %v, %v, want %d, %v", c.a, c.b, order, is, err, c.order, c.is)
		}
	}
}

// TestMergeAndCompareAsSets holds vectors to the sets of dots that they stand for.
func TestMergeAndCompareAsSets(t *testing.T) {
	for _, a := range small(2) {
		for _, b := range small(2) {
			x, y := knows(a), knows(b)
			order, is, err := Compare(a, b)
			var want int
			wantIs := true
			switch inside, outside := within(x, y), within(y, x); {
			case inside && !outside:
				want = -1
			case outside && !inside:
				want = 1
			case !inside:
				wantIs = false
			}
			if order != want || is != wantIs || err != nil {
				t.Fatalf("Compare(%v, %v) = %d, %v, %v, want %d, %v", a, b, order, is, err, want, wantIs)
			}
			got, err := Merge(a, b)
			all := knows(got)
			for d := range all {
				if !x[d] && !y[d] {
					t.Fatalf("Merge(%v, %v) = %v: neither knows %v", a, b, got, d)
				}
			}
			if err != nil || len(got) != api.MaxWho || !within(x, all) || !within(y, all) {
				t.Fatalf("Merge(%v, %v) = %v, %v", a, b, got, err)
			}
		}
	}
}

func TestPrintAndParse(t *testing.T) {
	for _, c := range []struct {
		v    []int
		text string
	}{
		{low, "0.0.0.0.0.0.0.0"},
		{high, "9999.9999.9999.9999.9999.9999.9999.9999"},
		{some, "0.1.2.3.9999.9998.10.0"},
		{[]int{100, 0, 7, 20, 305, 1000, 1, 40}, "100.0.7.20.305.1000.1.40"},
	} {
		if text, err := Print(c.v); text != c.text || err != nil {
			t.Errorf("Print(%v) = %q, %v, want %q", c.v, text, err, c.text)
		}
		if v, err := Parse(c.text); !slices.Equal(v, c.v) || err != nil {
			t.Errorf("Parse(%q) = %v, %v, want %v", c.text, v, err, c.v)
		}
	}
}

func TestParseEachNumber(t *testing.T) {
	for n := range 10000 {
		v := slices.Clone(some)
		v[n%api.MaxWho] = n
		text, err := Print(v)
		if err != nil {
			t.Fatalf("Print(%v): %v", v, err)
		}
		if back, err := Parse(text); !slices.Equal(back, v) || err != nil {
			t.Fatalf("Parse(%q) = %v, %v, want %v", text, back, err, v)
		}
	}
}

func TestParseOfWrongTexts(t *testing.T) {
	for _, c := range []struct {
		text string
		want api.Errno
	}{
		{"", api.ErrSyntax},
		{".", api.ErrSyntax},
		{".......", api.ErrSyntax},
		{"0.0.0.0.0.0.0.", api.ErrSyntax},
		{".0.0.0.0.0.0.0", api.ErrSyntax},
		{"0.0.0.0.0.0.0.0.", api.ErrSyntax},
		{".0.0.0.0.0.0.0.0", api.ErrSyntax},
		{"0.0.0..0.0.0.0", api.ErrSyntax},
		{"0.0.0..0.0.0.0.0", api.ErrSyntax},
		{"00.0.0.0.0.0.0.0", api.ErrSyntax},
		{"0.0.0.0.0.0.0.01", api.ErrSyntax},
		{"0.0.0.0.0.0.0.-0", api.ErrSyntax},
		{"-1.0.0.0.0.0.0.0", api.ErrSyntax},
		{"+1.0.0.0.0.0.0.0", api.ErrSyntax},
		{" 1.0.0.0.0.0.0.0", api.ErrSyntax},
		{"1.0.0.0.0.0.0.0\n", api.ErrSyntax},
		{"1 0 0 0 0 0 0 0", api.ErrSyntax},
		{"1,0,0,0,0,0,0,0", api.ErrSyntax},
		{"0x1.0.0.0.0.0.0.0", api.ErrSyntax},
		{"1_0.0.0.0.0.0.0.0", api.ErrSyntax},
		{"1e1.0.0.0.0.0.0.0", api.ErrSyntax},
		{"/.0.0.0.0.0.0.0", api.ErrSyntax},
		{":.0.0.0.0.0.0.0", api.ErrSyntax},
		{"0.0.0.0.0.0.0.\x00", api.ErrSyntax},
		{"0.0.0.0.0.0.0.\xff", api.ErrSyntax},
		{"٣.0.0.0.0.0.0.0", api.ErrSyntax},
		// Nine digits are a number, ten are none.
		{"100000000.0.0.0.0.0.0.0", api.ErrRange},
		{"0.0.0.0.0.0.0.999999999", api.ErrRange},
		{"1000000000.0.0.0.0.0.0.0", api.ErrSyntax},
		{"0.0.0.0.0.0.0.9999999999", api.ErrSyntax},
		{"0000000000.0.0.0.0.0.0.0", api.ErrSyntax},
		{"99999999999999999999.0.0.0.0.0.0.0", api.ErrSyntax},
		{strings.Repeat("9", 1000) + ".0.0.0.0.0.0.0", api.ErrSyntax},
		{"0.0.0.10000.0.0.0.0", api.ErrRange},
		{"0.0.0.99999.0.0.0.0", api.ErrRange},
		{"0", api.ErrShape},
		{"0.0.0.0.0.0.0", api.ErrShape},
		{"0.0.0.0.0.0.0.0.0", api.ErrShape},
		{strings.Repeat("1.", 1000) + "1", api.ErrShape},
		// The text's form goes ahead of how many, and that ahead of which numbers.
		{"10000", api.ErrShape},
		{"0.0.0.0.0.0.0.0.10000", api.ErrShape},
		{"01", api.ErrSyntax},
		{"0.0.0.0.0.0.0.0.01", api.ErrSyntax},
		{"10000.0.0.0.0.0.0.01", api.ErrSyntax},
		{"999999999.0.0.0.0.0.0.1000000000", api.ErrSyntax},
	} {
		v, err := Parse(c.text)
		wantError(t, err, c.want, "Parse", c.text)
		if len(v) != 0 {
			t.Errorf("Parse(%q) = %v with an error", c.text, v)
		}
	}
}

// wantRefused calls all that take a vector and a dot.
func wantRefused(t *testing.T, v []int, d api.Dot, want api.Errno) {
	t.Helper()
	is, err := Has(v, d)
	wantError(t, err, want, "Has", v, d)
	more, bad := Add(v, d)
	wantError(t, bad, want, "Add", v, d)
	if is || len(more) != 0 {
		t.Errorf("Has and Add of %v, %v: %v, %v with an error", v, d, is, more)
	}
}

// wantBothRefused calls all that take two vectors.
func wantBothRefused(t *testing.T, a, b []int, want api.Errno) {
	t.Helper()
	all, err := Merge(a, b)
	wantError(t, err, want, "Merge", a, b)
	order, is, bad := Compare(a, b)
	wantError(t, bad, want, "Compare", a, b)
	if len(all) != 0 || order != 0 || is {
		t.Errorf("Merge and Compare of %v, %v: %v, %d, %v with an error", a, b, all, order, is)
	}
}

func TestWrongVectorsAndDots(t *testing.T) {
	for _, d := range wrongDots {
		wantRefused(t, some, d, api.ErrRange)
	}
	for _, c := range wrongVectors {
		wantRefused(t, c.v, api.Dot{Who: 1, N: 1}, c.want)
		// What is wrong with the vector is told ahead of the dot's fault.
		wantRefused(t, c.v, api.Dot{}, c.want)
		wantBothRefused(t, c.v, some, c.want)
		wantBothRefused(t, some, c.v, c.want)
		text, err := Print(c.v)
		wantError(t, err, c.want, "Print", c.v)
		if text != "" {
			t.Errorf("Print(%v) = %q with an error", c.v, text)
		}
	}
}

func TestTheFirstVectorsFaultIsTold(t *testing.T) {
	for _, a := range wrongVectors {
		for _, b := range wrongVectors {
			wantBothRefused(t, a.v, b.v, a.want)
		}
	}
}

func TestNothingHandedInIsWrittenIntoOrShared(t *testing.T) {
	// One more number lies behind the length of each list.
	a := append(slices.Clone(some), 77)
	b := append(slices.Clone(low), 88)
	v, w := a[:api.MaxWho], b[:api.MaxWho]
	d := api.Dot{Who: 1, N: 1}
	for range 2 {
		Has(v, d)
		Compare(v, w)
		Print(v)
		more, _ := Add(v, d)
		all, _ := Merge(v, w)
		same, _ := Merge(v, v)
		for _, l := range [][]int{more, all, same} {
			l = l[:cap(l)]
			for i := range l {
				l[i] = 5555
			}
		}
		if !slices.Equal(a, append(slices.Clone(some), 77)) || !slices.Equal(b, append(slices.Clone(low), 88)) {
			t.Fatalf("what was handed in is now %v, %v", a, b)
		}
	}
	one, _ := Parse("1.1.1.1.1.1.1.1")
	one[0] = 9
	if two, _ := Parse("1.1.1.1.1.1.1.1"); two[0] != 1 {
		t.Errorf("what was read before shares memory with %v", two)
	}
}

func TestOrderIsByWhoThenN(t *testing.T) {
	l := []api.Dot{
		{Who: math.MinInt, N: math.MaxInt}, {Who: 1, N: math.MinInt}, {Who: 1, N: 1}, {Who: 1, N: 2}, {Who: 1, N: 10},
		{Who: 1, N: 9999}, {Who: 2, N: 1}, {Who: 2, N: 9}, {Who: 8, N: 1}, {Who: math.MaxInt, N: math.MinInt},
	}
	for i, a := range l {
		for k, b := range l {
			want := 0
			if i < k {
				want = -1
			} else if i > k {
				want = 1
			}
			if got := Order(a, b); got != want {
				t.Errorf("Order(%v, %v) = %d, want %d", a, b, got, want)
			}
		}
	}
}

func TestNumberOfSoManyDigits(t *testing.T) {
	for _, c := range []struct {
		word   string
		digits int
		want   int
		is     bool
	}{
		{"0", 4, 0, true},
		{"7", 4, 7, true},
		{"10", 4, 10, true},
		{"9999", 4, 9999, true},
		{"10000", 4, 0, false},
		{"10000", 5, 10000, true},
		{"0", 1, 0, true},
		{"10", 1, 0, false},
		{"0", 0, 0, false},
		{"", 4, 0, false},
		{"00", 4, 0, false},
		{"01", 4, 0, false},
		{"-0", 4, 0, false},
		{"-1", 4, 0, false},
		{"+1", 4, 0, false},
		{" 1", 4, 0, false},
		{"1_0", 4, 0, false},
		{"1a", 4, 0, false},
	} {
		if n, is := Number(c.word, c.digits); n != c.want || is != c.is {
			t.Errorf("Number(%q, %d) = %d, %v, want %d, %v", c.word, c.digits, n, is, c.want, c.is)
		}
	}
}
