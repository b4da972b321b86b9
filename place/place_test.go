package place

import (
	"errors"
	"math"
	"strings"
	"testing"

	"leafbinder/api"
	"leafbinder/plain"
)

const (
	z10 = "zzzzzzzzzz"
	a10 = "aaaaaaaaaa"
)

// wrongPlaces are texts that are no places, with what is wrong with them.
var wrongPlaces = []struct {
	p    string
	want api.Errno
}{
	{"", api.ErrSyntax},
	{"b", api.ErrSyntax},
	{"ab", api.ErrSyntax},
	{"hab", api.ErrSyntax},
	{"ha", api.ErrSyntax},
	{"hj", api.ErrSyntax},
	{"hz", api.ErrSyntax},
	{"Hb", api.ErrSyntax},
	{"hB", api.ErrSyntax},
	{"`b", api.ErrSyntax},
	{"{b", api.ErrSyntax},
	{"h b", api.ErrSyntax},
	{"hb ", api.ErrSyntax},
	{"h\x00b", api.ErrSyntax},
	{"h\xffb", api.ErrSyntax},
	{"hé", api.ErrSyntax},
	{"éb", api.ErrSyntax},
	{z10 + "ab", api.ErrSyntax},
	{z10 + "zz", api.ErrSyntax},
	{z10 + "zzb", api.ErrFull},
	{z10 + "zab", api.ErrFull},
	{strings.Repeat("?", api.MaxPlace+1), api.ErrFull},
	{strings.Repeat("b", 1000), api.ErrFull},
}

var rightPlaces = []struct {
	p   string
	who int
}{
	{"bb", 1}, {"hc", 2}, {"zd", 3}, {"he", 4}, {"hf", 5}, {"hg", 6}, {"hh", 7}, {"hi", 8},
	{"abb", 1}, {"aaaaze", 4}, {"iii", 8},
	{z10 + "zi", 8}, {a10 + "bb", 1},
}

// short gives "" and short places, some of them beginnings of others.
func short() []string {
	return []string{
		"", "bb", "bi", "cb", "gi", "hb", "hc", "hi", "yb", "zb", "zi",
		"abb", "abi", "acb", "azi", "bbb", "bbc", "bzb", "bzi", "cbb", "czb",
		"hbb", "hbi", "hcb", "hib", "hnb", "hzi", "yzi", "zbb", "zhb", "zyb", "zzb", "zzi",
		"aabb", "azyb", "azzb", "hbbb", "zzyb",
	}
}

// texts of so many letters, in order.
func texts(long int) []string {
	l := []string{""}
	for range long {
		var next []string
		for _, t := range l {
			for c := 'a'; c <= 'z'; c++ {
				next = append(next, t+string(c))
			}
		}
		l = next
	}
	return l
}

// stemsOf sifts all texts, word by word as the chapter says it.
func stemsOf(all []string, a, b string) []string {
	var l []string
	for _, t := range all {
		endsInA := t[len(t)-1] == 'a'
		belowB := b == "" || t < b
		if !endsInA && t > a && belowB && !strings.HasPrefix(b, t) {
			l = append(l, t)
		}
	}
	return l
}

func wantError(t *testing.T, err error, want api.Errno, call string, args ...any) {
	t.Helper()
	var e api.Errno
	if !errors.As(err, &e) || e != want {
		t.Errorf("%s of %q: error %v, want %v", call, args, err, want)
	}
}

func TestCheckAndWhoOfPlaces(t *testing.T) {
	for _, c := range rightPlaces {
		if err := Check(c.p); err != nil {
			t.Errorf("Check(%q): %v", c.p, err)
		}
		if who, err := Who(c.p); who != c.who || err != nil {
			t.Errorf("Who(%q) = %d, %v, want %d", c.p, who, err, c.who)
		}
	}
}

func TestCheckAndWhoOfWrongPlaces(t *testing.T) {
	for _, c := range wrongPlaces {
		wantError(t, Check(c.p), c.want, "Check", c.p)
		who, err := Who(c.p)
		wantError(t, err, c.want, "Who", c.p)
		if who != 0 {
			t.Errorf("Who(%q) = %d with an error", c.p, who)
		}
	}
}

// TestCheckOfAllPairs: of two bytes only those that the chapter names are a place.
func TestCheckOfAllPairs(t *testing.T) {
	for x := range 256 {
		for y := range 256 {
			p := string([]byte{byte(x), byte(y)})
			want := x > 'a' && x <= 'z' && y >= 'b' && y <= 'i'
			if got := Check(p) == nil; got != want {
				t.Errorf("Check(%q): right is %v, want %v", p, got, want)
			}
		}
	}
}

func TestBetween(t *testing.T) {
	cases := []struct {
		a, b string
		who  int
		want string
	}{
		{"", "", 1, "hb"}, // nothing on either side: b to z, the seventh
		{"", "", 8, "hi"},
		{"", "bb", 2, "ahc"}, // a ends in a, b is a beginning of bb
		{"", "cb", 2, "bc"},
		{"bb", "", 1, "hb"},
		{"yb", "", 1, "zb"}, // one is left
		{"zb", "", 1, "zhb"},
		{"zi", "", 1, "znb"},
		{"hb", "ib", 3, "hhd"},    // hc to hz; ia ends in a
		{"hb", "izb", 3, "hnd"},   // hc to hz, then ib to iy
		{"hb", "hc", 8, "hbhi"},   // the author alone is another one
		{"hb", "hbb", 4, "hbahe"}, // a is a beginning of b
		{"hb", "hbzb", 4, "hbge"},
		{"hb", "hbaabb", 4, "hbaaahe"},
		{"azzb", "bbb", 5, "bahf"},
		{"azyb", "bbb", 5, "bagf"}, // azz is ahead of bab to baz
		{z10 + "b", "", 1, z10 + "hb"},
		{z10 + "yb", "", 1, z10 + "zb"}, // MaxPlace letters on both sides of the call
		{z10 + "bb", z10 + "db", 1, z10 + "cb"},
		{"", a10 + "cb", 1, a10 + "bb"},
	}
	for _, c := range cases {
		got, err := Between(c.a, c.b, c.who)
		if got != c.want || err != nil {
			t.Errorf("Between(%q, %q, %d) = %q, %v, want %q", c.a, c.b, c.who, got, err, c.want)
		}
		long, err := Room(c.a, c.b)
		if long != len(c.want) || err != nil {
			t.Errorf("Room(%q, %q) = %d, %v, want %d", c.a, c.b, long, err, len(c.want))
		}
	}
}

// TestBetweenOfAllTexts holds Between and Room against all short texts.
func TestBetweenOfAllTexts(t *testing.T) {
	levels := [][]string{texts(1), texts(2), texts(3)}
	told := 0
	for _, a := range short() {
		for _, b := range short() {
			if b != "" && a >= b {
				continue
			}
			var stems []string
			for _, all := range levels {
				if stems = stemsOf(all, a, b); len(stems) > 0 {
					break
				}
			}
			if len(stems) == 0 {
				continue // longer than what is gone through here
			}
			told++
			want := stems[(len(stems)-1)/4] + "c"
			if got, err := Between(a, b, 2); got != want || err != nil {
				t.Errorf("Between(%q, %q, 2) = %q, %v, want %q", a, b, got, err, want)
			}
			if long, err := Room(a, b); long != len(want) || err != nil {
				t.Errorf("Room(%q, %q) = %d, %v, want %d", a, b, long, err, len(want))
			}
		}
	}
	if told < 300 {
		t.Errorf("only %d pairs were told", told)
	}
}

// narrow puts places between, again and again on one side, till there is no room.
func narrow(t *testing.T, a, b string, who int, keepLow bool) {
	t.Helper()
	for range 10_000 {
		p, err := Between(a, b, who)
		long, bad := Room(a, b)
		if err != nil {
			wantError(t, err, api.ErrDeep, "Between", a, b)
			wantError(t, bad, api.ErrDeep, "Room", a, b)
			return
		}
		if Check(p) != nil || p <= a || b != "" && p >= b {
			t.Fatalf("Between(%q, %q, %d) = %q", a, b, who, p)
		}
		if got, _ := Who(p); got != who || long != len(p) || bad != nil {
			t.Fatalf("%q between %q and %q: who %d, room %d, %v", p, a, b, got, long, bad)
		}
		if keepLow {
			b = p
		} else {
			a = p
		}
	}
	t.Errorf("there is always room above %q, below %q", a, b)
}

func TestBetweenIsBetween(t *testing.T) {
	for who := 1; who <= api.MaxWho; who++ {
		for _, keepLow := range []bool{true, false} {
			narrow(t, "", "", who, keepLow)
			narrow(t, "hb", "hc", who, keepLow)
			narrow(t, "hb", "hbb", who, keepLow)
			narrow(t, "", "abb", who, keepLow)
			narrow(t, "zzb", "", who, keepLow)
		}
	}
}

func TestNoRoomBetween(t *testing.T) {
	for _, c := range [][2]string{
		{z10 + "zb", ""},
		{z10 + "zi", ""},
		{"", a10 + "bb"},
		{z10 + "bb", z10 + "bc"}, // only the author is another one
		{z10 + "bb", z10 + "cb"}, // only beginnings of the other one between
		{"hb", "hbaaaaaaaabb"},   // a beginning of the other one
	} {
		p, err := Between(c[0], c[1], 1)
		wantError(t, err, api.ErrDeep, "Between", c[0], c[1])
		long, bad := Room(c[0], c[1])
		wantError(t, bad, api.ErrDeep, "Room", c[0], c[1])
		if p != "" || long != 0 {
			t.Errorf("%q: %q and %d with an error", c, p, long)
		}
	}
}

// TestErrorsOfBetween: of several errors the one that the chapter names first.
func TestErrorsOfBetween(t *testing.T) {
	tooLong := strings.Repeat("b", api.MaxPlace+1)
	deep := z10 + "zi"
	cases := []struct {
		a, b          string
		who           int
		between, room api.Errno
	}{
		{"hb", "hb", 1, api.ErrShape, api.ErrShape},
		{"hc", "hb", 1, api.ErrShape, api.ErrShape},
		{"hbb", "hb", 1, api.ErrShape, api.ErrShape},
		{deep, deep, 1, api.ErrShape, api.ErrShape},
		{"ha", "hb", 1, api.ErrSyntax, api.ErrSyntax},
		{"hb", "ha", 1, api.ErrSyntax, api.ErrSyntax},
		{"zb", "ha", 1, api.ErrSyntax, api.ErrSyntax},
		{deep, "?", 1, api.ErrSyntax, api.ErrSyntax},
		{tooLong, "ha", 1, api.ErrFull, api.ErrFull},
		{"ha", tooLong, 1, api.ErrSyntax, api.ErrSyntax},
		{"", tooLong, 1, api.ErrFull, api.ErrFull},
		{"", "ha", 1, api.ErrSyntax, api.ErrSyntax},
		{"ha", "", 1, api.ErrSyntax, api.ErrSyntax},
		{tooLong, "", 1, api.ErrFull, api.ErrFull},
		{"ha", tooLong, 0, api.ErrRange, api.ErrSyntax},
		{"hc", "hb", 9, api.ErrRange, api.ErrShape},
		{deep, "", 9, api.ErrRange, api.ErrDeep},
	}
	for _, c := range cases {
		p, err := Between(c.a, c.b, c.who)
		wantError(t, err, c.between, "Between", c.a, c.b)
		long, bad := Room(c.a, c.b)
		wantError(t, bad, c.room, "Room", c.a, c.b)
		if p != "" || long != 0 {
			t.Errorf("%q, %q: %q and %d with an error", c.a, c.b, p, long)
		}
	}
}

func TestBetweenOfWrongAuthors(t *testing.T) {
	for _, who := range []int{0, 9, -1, 257, 1 << 32, 1<<32 + 1, math.MinInt, math.MaxInt} {
		p, err := Between("hb", "zb", who)
		wantError(t, err, api.ErrRange, "Between", "hb", "zb")
		if p != "" {
			t.Errorf("Between of author %d = %q with an error", who, p)
		}
	}
}

// TestRulesOfAllCalls: whatever is given, no call panics, each tells a number of
// its own or none, and answers the same when it is asked again.
func TestRulesOfAllCalls(t *testing.T) {
	var all []string
	for _, c := range wrongPlaces {
		all = append(all, c.p)
	}
	for _, c := range rightPlaces {
		all = append(all, c.p)
	}
	for _, a := range all {
		for _, b := range all {
			for _, who := range []int{math.MinInt, 0, 1, 8, 9, math.MaxInt} {
				p, err := Between(a, b, who)
				if e := plain.Told(err); e < api.OK || e > api.ErrDeep || (err == nil) != (p != "") || err != nil && e == api.OK {
					t.Fatalf("Between(%q, %q, %d) = %q, %v", a, b, who, p, err)
				}
				if again, same := Between(a, b, who); again != p || same != err {
					t.Fatalf("Between(%q, %q, %d) = %q, %v, then %q, %v", a, b, who, p, err, again, same)
				}
			}
			long, err := Room(a, b)
			if e := plain.Told(err); e < api.OK || e > api.ErrDeep || (err == nil) != (long != 0) || err != nil && e == api.OK {
				t.Fatalf("Room(%q, %q) = %d, %v", a, b, long, err)
			}
		}
	}
}
