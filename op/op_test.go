package op

import (
	"errors"
	"math"
	"reflect"
	"slices"
	"strings"
	"testing"

	"leafbinder/api"
)

const (
	longest = "zzzzzzzzzzzb"
	tooLong = "zzzzzzzzzzzzb"
)

var (
	write  = api.Op{Dot: api.Dot{Who: 3, N: 1}, What: api.Write, Place: "hb", Letter: 'a'}
	strike = api.Op{Dot: api.Dot{Who: 1, N: 2}, What: api.Strike, Place: "hnb"}
	cut    = api.Op{Dot: api.Dot{Who: 2, N: 300}, What: api.Cut, Place: "zzi"}
	join   = api.Op{Dot: api.Dot{Who: 8, N: 9999}, What: api.Join, Place: "mc", Seen: []api.Dot{{Who: 1, N: 4}, {Who: 2, N: 1}}}
)

var wrongDots = []api.Dot{
	{},
	{Who: 0, N: 1},
	{Who: 9, N: 1},
	{Who: -1, N: 1},
	{Who: 257, N: 1},
	{Who: 1, N: 0},
	{Who: 1, N: -1},
	{Who: 1, N: 10000},
	{Who: 1, N: 65537},
	{Who: math.MinInt, N: math.MinInt},
	{Who: math.MaxInt, N: math.MaxInt},
}

var wrongWhats = []int{0, 5, 6, -1, 255, 256, 257, math.MinInt, math.MaxInt}

var wrongPlaces = []struct {
	p    string
	want api.Errno
}{
	{"", api.ErrSyntax},
	{"b", api.ErrSyntax},
	{"ha", api.ErrSyntax},
	{"ab", api.ErrSyntax},
	{"h\xffb", api.ErrSyntax},
	{tooLong, api.ErrFull},
	{strings.Repeat("?", 1000), api.ErrFull},
}

var wrongLetters = []int{0, 1, 31, 127, 128, -1, -97, 255, 256 + 'a', math.MinInt, math.MaxInt}

// points gives so many dots that rise, five of an author but for the last one.
func points(n int) []api.Dot {
	var l []api.Dot
	for i := range n {
		who := min(1+i/5, api.MaxWho)
		l = append(l, api.Dot{Who: who, N: 1 + i - 5*(who-1)})
	}
	return l
}

type wrongList struct {
	name string
	l    []api.Dot
	want api.Errno
}

// wrongSeen are lists of dots that no join may have seen.
func wrongSeen() []wrongList {
	two := api.Dot{Who: 2, N: 2}
	lists := []wrongList{
		{"41 dots", points(41), api.ErrFull},
		{"41 wrong dots", make([]api.Dot, 41), api.ErrFull},
		{"41 dots that fall", append([]api.Dot{two}, points(40)...), api.ErrFull},
		{"40 wrong dots", make([]api.Dot, 40), api.ErrRange},
		{"a wrong dot at last", append(points(39), api.Dot{Who: 9, N: 1}), api.ErrRange},
		{"a dot twice", []api.Dot{two, two}, api.ErrClash},
		{"authors that fall, numbers that rise", []api.Dot{two, {Who: 1, N: 3}}, api.ErrClash},
		{"numbers that fall", []api.Dot{two, {Who: 2, N: 1}}, api.ErrClash},
		{"the last ones fall", append(points(39), api.Dot{Who: 8, N: 1}), api.ErrClash},
		{"the first ones fall", append([]api.Dot{two}, points(39)...), api.ErrClash},
		{"a wrong dot that falls", []api.Dot{two, {Who: 2, N: 0}}, api.ErrRange},
		{"a wrong dot, then twice", []api.Dot{{Who: 0, N: 1}, two, two}, api.ErrRange},
	}
	for _, d := range wrongDots {
		lists = append(lists,
			wrongList{"a wrong dot", []api.Dot{d}, api.ErrRange},
			// A dot's own fault is told ahead of not rising, which is one of them all.
			wrongList{"twice, then a wrong dot", []api.Dot{two, two, d}, api.ErrRange},
			wrongList{"a fall, then a wrong dot", []api.Dot{two, {Who: 1, N: 9}, d}, api.ErrRange})
	}
	return lists
}

// rightOps have all that may be, at its ends.
func rightOps() []api.Op {
	ops := []api.Op{write, strike, cut, join}
	for _, o := range []api.Op{write, strike, cut, join} {
		for _, d := range []api.Dot{{Who: 1, N: 1}, {Who: 8, N: 255}, {Who: 4, N: 256}, {Who: 5, N: 257}, {Who: 8, N: 9999}} {
			o.Dot = d
			for _, p := range []string{"bb", "zi", "aaaabb", longest} {
				o.Place = p
				ops = append(ops, o)
			}
		}
	}
	for letter := 32; letter <= 126; letter++ {
		o := write
		o.Letter = letter
		ops = append(ops, o)
	}
	for n := range 41 {
		o := join
		o.Seen = points(n)
		ops = append(ops, o)
	}
	for _, seen := range [][]api.Dot{
		{},
		{{Who: 8, N: 9999}},
		{{Who: 1, N: 9999}, {Who: 2, N: 1}},
		{{Who: 2, N: 255}, {Who: 2, N: 256}, {Who: 2, N: 257}},
	} {
		o := join
		o.Seen = seen
		ops = append(ops, o)
	}
	return ops
}

type wrongOp struct {
	name string
	o    api.Op
	want api.Errno
}

// changed gives an op that is another one in something.
func changed(o api.Op, change func(o *api.Op)) api.Op {
	change(&o)
	return o
}

// spoil sets a wrong thing of one kind into an op, with what is wrong then.
type spoil struct {
	name string
	set  func(o *api.Op)
	want api.Errno
}

func spoilDots() []spoil {
	var l []spoil
	for _, d := range wrongDots {
		l = append(l, spoil{"dot", func(o *api.Op) { o.Dot = d }, api.ErrRange})
	}
	return l
}

func spoilWhats() []spoil {
	var l []spoil
	for _, what := range wrongWhats {
		l = append(l, spoil{"what", func(o *api.Op) { o.What = what }, api.ErrRange})
	}
	return l
}

func spoilPlaces() []spoil {
	var l []spoil
	for _, c := range wrongPlaces {
		l = append(l, spoil{"place", func(o *api.Op) { o.Place = c.p }, c.want})
	}
	return l
}

// spoilLetters of ops that do this.
func spoilLetters(what int) []spoil {
	var l []spoil
	if what == api.Write {
		for _, letter := range wrongLetters {
			l = append(l, spoil{"letter of a write", func(o *api.Op) { o.Letter = letter }, api.ErrRange})
		}
		return l
	}
	for _, letter := range []int{1, -1, 31, 32, 'a', 126, 127, 256, math.MinInt, math.MaxInt} {
		l = append(l, spoil{"letter", func(o *api.Op) { o.Letter = letter }, api.ErrShape})
	}
	return l
}

// spoilSeen of ops that do this.
func spoilSeen(what int) []spoil {
	var l []spoil
	for _, c := range wrongSeen() {
		want := api.ErrShape
		if what == api.Join {
			want = c.want
		}
		l = append(l, spoil{"seen: " + c.name, func(o *api.Op) { o.Seen = c.l }, want})
	}
	if what != api.Join {
		for _, n := range []int{1, 2, 40} {
			l = append(l, spoil{"seen of no join", func(o *api.Op) { o.Seen = points(n) }, api.ErrShape})
		}
	}
	return l
}

// wrongOps have one fault, or two: that of the kind that is named first is told.
func wrongOps() []wrongOp {
	var l []wrongOp
	for _, right := range []api.Op{write, strike, cut, join} {
		kinds := [][]spoil{spoilDots(), spoilWhats(), spoilPlaces(), spoilLetters(right.What), spoilSeen(right.What)}
		for i, kind := range kinds {
			for _, first := range kind {
				one := changed(right, first.set)
				l = append(l, wrongOp{first.name, one, first.want})
				for _, later := range kinds[i+1:] {
					for _, second := range later {
						l = append(l, wrongOp{first.name + ", " + second.name, changed(one, second.set), first.want})
					}
				}
			}
		}
	}
	return append(l, wrongOp{"an empty op", api.Op{}, api.ErrRange})
}

func wantError(t *testing.T, err error, want api.Errno, call string, args ...any) {
	t.Helper()
	var e api.Errno
	if !errors.As(err, &e) || e != want {
		t.Errorf("%s of %v: error %v, want %v", call, args, err, want)
	}
}

func wantNotDecoded(t *testing.T, b, why string) {
	t.Helper()
	o, err := Decode(b)
	wantError(t, err, api.ErrSyntax, "Decode", why, []byte(b))
	if !reflect.DeepEqual(o, api.Op{}) {
		t.Errorf("%s: Decode(%x) = %v with an error", why, b, o)
	}
}

func wantNotUnpacked(t *testing.T, b, why string) {
	t.Helper()
	l, err := Unpack(b)
	wantError(t, err, api.ErrSyntax, "Unpack", why, []byte(b))
	if len(l) != 0 {
		t.Errorf("%s: Unpack(%x) = %v with an error", why, b, l)
	}
}

func sameOp(a, b api.Op) bool {
	return a.Dot == b.Dot && a.What == b.What && a.Place == b.Place && a.Letter == b.Letter && slices.Equal(a.Seen, b.Seen)
}

// withSum sets the sum behind bytes.
func withSum(b string) string {
	n := 0
	for _, c := range []byte(b) {
		n = (n + int(c)) % 253
	}
	return b + string([]byte{byte(n)})
}

// boxed sets how long bytes are ahead of them.
func boxed(b string) string {
	return string([]byte{byte(len(b) / 256), byte(len(b) % 256)}) + b
}

// packed are bytes one behind the other, with how many they are said to be.
func packed(n int, parts ...string) string {
	var b strings.Builder
	b.Write([]byte{byte(n / 256), byte(n % 256)})
	for _, part := range parts {
		b.WriteString(boxed(part))
	}
	return b.String()
}

func encoded(t *testing.T, o api.Op) string {
	t.Helper()
	b, err := Encode(o)
	if err != nil {
		t.Fatalf("Encode(%v): %v", o, err)
	}
	return b
}

func TestCheckOfOps(t *testing.T) {
	for _, o := range rightOps() {
		if err := Check(o); err != nil {
			t.Errorf("Check(%v): %v", o, err)
		}
	}
	// An empty list is none.
	for _, o := range []api.Op{write, strike, cut} {
		o.Seen = []api.Dot{}
		if err := Check(o); err != nil {
			t.Errorf("Check(%v): %v", o, err)
		}
	}
}

func TestWrongOpsAreRefused(t *testing.T) {
	for _, c := range wrongOps() {
		wantError(t, Check(c.o), c.want, "Check", c.name, c.o)
		b, err := Encode(c.o)
		wantError(t, err, c.want, "Encode", c.name, c.o)
		if b != "" {
			t.Errorf("%s: Encode(%v) = %x with an error", c.name, c.o, b)
		}
	}
}

func TestEncode(t *testing.T) {
	for _, c := range []struct {
		o    api.Op
		want string
	}{
		{write, "\x01\x03\x00\x01\x02hba\x35"},
		{strike, "\x02\x01\x00\x02\x03hnb\x43"},
		{cut, "\x03\x02\x01\x2c\x03zzi\x95"},
		{join, "\x04\x08\x27\x0f\x02mc\x02\x01\x00\x04\x02\x00\x01\x21"},
		{changed(join, func(o *api.Op) { o.Seen = nil }), "\x04\x08\x27\x0f\x02mc\x00\x17"},
		{changed(write, func(o *api.Op) { o.Letter = 32 }), "\x01\x03\x00\x01\x02hb \xf1"},
		{changed(write, func(o *api.Op) { o.Letter = 126 }), "\x01\x03\x00\x01\x02hb~\x52"},
		// The greatest sum that is told, and the one above it.
		{changed(write, func(o *api.Op) { o.Letter = 43 }), "\x01\x03\x00\x01\x02hb+\xfc"},
		{changed(write, func(o *api.Op) { o.Letter = 44 }), "\x01\x03\x00\x01\x02hb,\x00"},
		// N in two bytes, the high one first.
		{changed(strike, func(o *api.Op) { o.Dot.N = 1 }), "\x02\x01\x00\x01\x03hnb\x42"},
		{changed(strike, func(o *api.Op) { o.Dot.N = 255 }), "\x02\x01\x00\xff\x03hnb\x43"},
		{changed(strike, func(o *api.Op) { o.Dot.N = 256 }), "\x02\x01\x01\x00\x03hnb\x42"},
		{changed(strike, func(o *api.Op) { o.Dot.N = 9999 }), "\x02\x01\x27\x0f\x03hnb\x77"},
		{changed(cut, func(o *api.Op) { o.Place = longest }), "\x03\x02\x01\x2c\x0czzzzzzzzzzzb\xed"},
	} {
		if b, err := Encode(c.o); b != c.want || err != nil {
			t.Errorf("Encode(%v) = %q, %v, want %q", c.o, b, err, c.want)
		}
		if o, err := Decode(c.want); !sameOp(o, c.o) || err != nil {
			t.Errorf("Decode(%q) = %v, %v, want %v", c.want, o, err, c.o)
		}
	}
}

func TestWhatIsEncodedIsDecoded(t *testing.T) {
	for _, o := range rightOps() {
		b := encoded(t, o)
		if again, err := Decode(b); !sameOp(again, o) || err != nil {
			t.Errorf("Decode(Encode(%v)) = %v, %v", o, again, err)
		}
	}
}

func TestBytesThatAreCutShort(t *testing.T) {
	for _, o := range rightOps() {
		b := encoded(t, o)
		body := b[:len(b)-1]
		wantNotDecoded(t, body, "without a sum")
		for i := range len(body) {
			wantNotDecoded(t, b[:i], "cut short")
			// Not the sum alone tells that something is missing.
			wantNotDecoded(t, withSum(b[:i]), "cut short, with a sum")
		}
	}
}

func TestBytesThatGoOn(t *testing.T) {
	for _, o := range rightOps() {
		b := encoded(t, o)
		for _, more := range []string{"\x00", "x", "\xff", b, strings.Repeat("\x00", 1000)} {
			wantNotDecoded(t, b+more, "more behind")
			wantNotDecoded(t, more[:1]+b, "more ahead")
			wantNotDecoded(t, withSum(b[:len(b)-1]+more), "more ahead of the sum")
			wantNotDecoded(t, withSum(b+more), "more behind, with a sum")
		}
	}
}

func TestBytesWithAnotherSum(t *testing.T) {
	for _, o := range rightOps() {
		b := encoded(t, o)
		for c := range 256 {
			if byte(c) != b[len(b)-1] {
				wantNotDecoded(t, b[:len(b)-1]+string([]byte{byte(c)}), "another sum")
			}
		}
	}
}

func TestLengthsThatAreNotThose(t *testing.T) {
	for _, o := range rightOps() {
		b := encoded(t, o)
		for _, at := range lengthsAt(o) {
			for c := range 256 {
				if byte(c) != b[at] {
					other := b[:at] + string([]byte{byte(c)}) + b[at+1:]
					wantNotDecoded(t, other, "another length")
					wantNotDecoded(t, withSum(other[:len(other)-1]), "another length, with a sum")
				}
			}
		}
	}
}

// lengthsAt tells where in an op's bytes numbers stand that say how much comes.
func lengthsAt(o api.Op) []int {
	if o.What == api.Join {
		return []int{4, 5 + len(o.Place)}
	}
	return []int{4}
}

// asBytes writes an op as Encode does, but asks nothing.
func asBytes(o api.Op) string {
	point := func(d api.Dot) string { return string([]byte{byte(d.Who), byte(d.N / 256), byte(d.N % 256)}) }
	b := string([]byte{byte(o.What)}) + point(o.Dot) + string([]byte{byte(len(o.Place))}) + o.Place
	if o.What == api.Write {
		b += string([]byte{byte(o.Letter)})
	}
	if o.What == api.Join {
		b += string([]byte{byte(len(o.Seen))})
		for _, d := range o.Seen {
			b += point(d)
		}
	}
	return withSum(b)
}

// bytesOfWrongOps are of their form, but of no op that may be.
func bytesOfWrongOps() []string {
	fits := func(d api.Dot) bool { return d.Who >= 0 && d.Who <= 255 && d.N >= 0 && d.N <= 65535 }
	var l []string
	for _, right := range []api.Op{write, strike, cut, join} {
		for _, d := range wrongDots {
			if fits(d) {
				l = append(l, asBytes(changed(right, func(o *api.Op) { o.Dot = d })))
			}
		}
		for _, what := range []int{0, 5, 6, 255} {
			l = append(l, asBytes(changed(right, func(o *api.Op) { o.What = what })))
		}
		for _, c := range wrongPlaces {
			if len(c.p) <= 255 {
				l = append(l, asBytes(changed(right, func(o *api.Op) { o.Place = c.p })))
			}
		}
	}
	for _, letter := range []int{0, 1, 31, 127, 128, 255} {
		l = append(l, asBytes(changed(write, func(o *api.Op) { o.Letter = letter })))
	}
	for _, c := range wrongSeen() {
		if !slices.ContainsFunc(c.l, func(d api.Dot) bool { return !fits(d) }) {
			l = append(l, asBytes(changed(join, func(o *api.Op) { o.Seen = c.l })))
		}
	}
	return l
}

func TestBytesOfWrongOps(t *testing.T) {
	for _, o := range rightOps() {
		if b := encoded(t, o); b != asBytes(o) {
			t.Errorf("Encode(%v) = %x, want %x", o, b, asBytes(o))
		}
	}
	for _, b := range bytesOfWrongOps() {
		wantNotDecoded(t, b, "a wrong op")
		wantNotUnpacked(t, packed(1, b), "a wrong op")
		wantNotUnpacked(t, packed(3, asBytes(write), b, asBytes(join)), "a wrong op between")
	}
}

// model tells by lengths alone whether bytes are an op's, and which.
func model(b string) (o api.Op, is bool) {
	if len(b) < 6 || withSum(b[:len(b)-1]) != b {
		return o, false
	}
	long := int(b[4])
	if len(b) < 6+long {
		return o, false
	}
	o = api.Op{What: int(b[0]), Dot: api.Dot{Who: int(b[1]), N: int(b[2])*256 + int(b[3])}, Place: b[5 : 5+long]}
	tail := b[5+long : len(b)-1]
	switch o.What {
	case api.Strike, api.Cut:
		is = tail == ""
	case api.Write:
		if is = len(tail) == 1; is {
			o.Letter = int(tail[0])
		}
	case api.Join:
		is = len(tail) > 0 && len(tail) == 1+3*int(tail[0])
		for i := 1; is && i < len(tail); i += 3 {
			o.Seen = append(o.Seen, api.Dot{Who: int(tail[i]), N: int(tail[i+1])*256 + int(tail[i+2])})
		}
	}
	return o, is && Check(o) == nil
}

func wantAsModel(t *testing.T, b string) {
	t.Helper()
	want, is := model(b)
	if !is {
		wantNotDecoded(t, b, "no op")
		return
	}
	if o, err := Decode(b); !sameOp(o, want) || err != nil {
		t.Errorf("Decode(%x) = %v, %v, want %v", b, o, err, want)
	}
}

// TestDecodeOfBytesNearby: each byte as each other one, with the old sum and
// with a new one, and each byte taken out.
func TestDecodeOfBytesNearby(t *testing.T) {
	found := 0
	for _, o := range []api.Op{write, strike, cut, join} {
		b := encoded(t, o)
		for i := range len(b) {
			wantAsModel(t, b[:i]+b[i+1:])
			wantAsModel(t, withSum(b[:i]+b[i+1:]))
			for c := range 256 {
				other := b[:i] + string([]byte{byte(c)}) + b[i+1:]
				wantAsModel(t, other)
				other = withSum(other[:len(other)-1])
				wantAsModel(t, other)
				if _, err := Decode(other); err == nil {
					found++
				}
			}
		}
	}
	// Both kinds come: other authors, letters and places among the right ones.
	if found < 500 {
		t.Errorf("only %d are ops", found)
	}
}

// TestDecodeOfShortBytes: all bytes of up to two, and some longer ones.
func TestDecodeOfShortBytes(t *testing.T) {
	wantNotDecoded(t, "", "nothing")
	for a := range 256 {
		wantNotDecoded(t, string([]byte{byte(a)}), "one byte")
		wantNotDecoded(t, strings.Repeat(string([]byte{byte(a)}), 300), "one byte, again and again")
		for b := range 256 {
			wantNotDecoded(t, string([]byte{byte(a), byte(b)}), "two bytes")
		}
	}
}

// manyOps gives so many ops of all kinds.
func manyOps(n int) []api.Op {
	right := rightOps()
	var l []api.Op
	for i := range n {
		l = append(l, right[i%len(right)])
	}
	return l
}

func TestPack(t *testing.T) {
	for _, c := range []struct {
		l    []api.Op
		want string
	}{
		{nil, "\x00\x00"},
		{[]api.Op{}, "\x00\x00"},
		{[]api.Op{write}, "\x00\x01\x00\x09\x01\x03\x00\x01\x02hba\x35"},
		// In their order; one op may stand there twice.
		{[]api.Op{strike, write, strike}, "\x00\x03\x00\x09\x02\x01\x00\x02\x03hnb\x43\x00\x09\x01\x03\x00\x01\x02hba\x35\x00\x09\x02\x01\x00\x02\x03hnb\x43"},
	} {
		if b, err := Pack(c.l); b != c.want || err != nil {
			t.Errorf("Pack(%v) = %q, %v, want %q", c.l, b, err, c.want)
		}
		if l, err := Unpack(c.want); !slices.EqualFunc(l, c.l, sameOp) || err != nil {
			t.Errorf("Unpack(%q) = %v, %v, want %v", c.want, l, err, c.l)
		}
	}
}

func TestWhatIsPackedIsUnpacked(t *testing.T) {
	for _, n := range []int{0, 1, 2, 255, 256, 257, 399, 400} {
		l := manyOps(n)
		var parts []string
		for _, o := range l {
			parts = append(parts, asBytes(o))
		}
		b, err := Pack(l)
		if want := packed(n, parts...); b != want || err != nil {
			t.Errorf("Pack of %d ops = %x, %v, want %x", n, b, err, want)
		}
		if again, err := Unpack(b); !slices.EqualFunc(again, l, sameOp) || err != nil {
			t.Errorf("Unpack of %d ops = %v, %v", n, again, err)
		}
	}
}

func wantNotPacked(t *testing.T, l []api.Op, want api.Errno, why string) {
	t.Helper()
	b, err := Pack(l)
	wantError(t, err, want, "Pack", why)
	if b != "" {
		t.Errorf("%s: Pack = %x with an error", why, b)
	}
}

func TestPackRefuses(t *testing.T) {
	wantNotPacked(t, manyOps(401), api.ErrFull, "401 ops")
	wantNotPacked(t, manyOps(1000), api.ErrFull, "1000 ops")
	// Too many are told ahead of what is wrong with them.
	wantNotPacked(t, make([]api.Op, 401), api.ErrFull, "401 wrong ops")
	wantNotPacked(t, make([]api.Op, 400), api.ErrRange, "400 wrong ops")
	for _, c := range wrongOps() {
		wantNotPacked(t, []api.Op{c.o}, c.want, c.name)
		wantNotPacked(t, []api.Op{write, c.o, join}, c.want, c.name+" between")
	}
	wrong := []wrongOp{
		{"dot", changed(write, func(o *api.Op) { o.Dot.N = 0 }), api.ErrRange},
		{"place", changed(strike, func(o *api.Op) { o.Place = "ha" }), api.ErrSyntax},
		{"long place", changed(cut, func(o *api.Op) { o.Place = tooLong }), api.ErrFull},
		{"letter", changed(cut, func(o *api.Op) { o.Letter = 1 }), api.ErrShape},
		{"seen", changed(join, func(o *api.Op) { o.Seen = []api.Dot{{Who: 2, N: 1}, {Who: 1, N: 4}} }), api.ErrClash},
	}
	for _, a := range wrong {
		wantNotPacked(t, append(manyOps(399), a.o), a.want, a.name+" at last")
		// Of several the first one that has a fault is told, whatever it is.
		for _, b := range wrong {
			wantNotPacked(t, []api.Op{write, a.o, join, b.o, write}, a.want, a.name+", then "+b.name)
		}
	}
}

func TestUnpackRefuses(t *testing.T) {
	w, j := asBytes(write), asBytes(join)
	whole := packed(2, w, j)
	for i := range len(whole) {
		wantNotUnpacked(t, whole[:i], "cut short")
	}
	for _, more := range []string{"\x00", "x", "\x00\x00", boxed(w)} {
		wantNotUnpacked(t, whole+more, "more behind")
		wantNotUnpacked(t, "\x00\x00"+more, "more behind nothing")
	}
	for c, b := range map[string]string{
		"fewer than are said":     packed(3, w, j),
		"many fewer":              packed(65535, w, j),
		"more than are said":      packed(1, w, j),
		"the low byte first":      "\x02\x00" + boxed(w) + boxed(j),
		"a length, low byte at 1": "\x00\x01\x09\x00" + w,
		"one with nothing":        packed(1, ""),
		"one with more in it":     packed(1, w+"\x00"),
		"two in one":              packed(1, w+j),
		"one too short":           packed(1, w[:len(w)-1]),
		"a byte of one in two":    packed(2, w+j[:1], j[1:]),
		"a length above what is":  "\x00\x01\x00\x0a" + w,
		"a length far above":      "\x00\x01\xff\xff" + w,
		"another sum in it":       packed(2, w[:len(w)-1]+"\x00", j),
		"another sum in the last": packed(2, w, j[:len(j)-1]+"\x00"),
		"no lengths":              "\x00\x01" + w,
	} {
		wantNotUnpacked(t, b, c)
	}
}

func TestUnpackOfTooMany(t *testing.T) {
	for _, n := range []int{401, 402, 512, 1000, 65535} {
		parts := slices.Repeat([]string{asBytes(write)}, n)
		wantNotUnpacked(t, packed(n, parts...), "too many")
		wantNotUnpacked(t, packed(n), "too many, that are not there")
	}
}

// modelOps tells whether bytes are those of two ops, and which.
func modelOps(b string) ([]api.Op, bool) {
	if len(b) < 4 || b[:2] != "\x00\x02" {
		return nil, false
	}
	first := 4 + int(b[2])*256 + int(b[3])
	if len(b) < first+2 || len(b) != first+2+int(b[first])*256+int(b[first+1]) {
		return nil, false
	}
	one, isOne := model(b[4:first])
	two, isTwo := model(b[first+2:])
	return []api.Op{one, two}, isOne && isTwo
}

// TestUnpackOfBytesNearby: each byte as each other one. A few of them are ops:
// two bytes that are 253 apart have the same sum.
func TestUnpackOfBytesNearby(t *testing.T) {
	b := packed(2, asBytes(write), asBytes(join))
	for i := range len(b) {
		for c := range 256 {
			other := b[:i] + string([]byte{byte(c)}) + b[i+1:]
			want, is := modelOps(other)
			if !is {
				wantNotUnpacked(t, other, "a byte is another one")
				continue
			}
			if l, err := Unpack(other); !slices.EqualFunc(l, want, sameOp) || err != nil {
				t.Errorf("Unpack(%x) = %v, %v, want %v", other, l, err, want)
			}
		}
	}
}

// TestWhateverEndsAReadingIsTold: nothing that is thrown in a reading comes out
// of it in another way than as an error.
func TestWhateverEndsAReadingIsTold(t *testing.T) {
	if err := told(nil); err != nil {
		t.Errorf("told(nil) = %v", err)
	}
	for _, caught := range []any{api.ErrSyntax, errors.New("another one"), "a text", 7} {
		wantError(t, told(caught), api.ErrSyntax, "told", caught)
	}
	wantError(t, told(api.ErrFull), api.ErrFull, "told")
}

func TestNothingHandedInIsWrittenIntoOrShared(t *testing.T) {
	dots := append(points(3), api.Dot{Who: 7, N: 7}, api.Dot{Who: 7, N: 8})
	ops := []api.Op{changed(join, func(o *api.Op) { o.Seen = dots[:3] }), write, strike, {}, {}}
	dotsAsTheyWere, opsAsTheyWere := slices.Clone(dots), slices.Clone(ops)

	if b := encoded(t, ops[0]); b != asBytes(opsAsTheyWere[0]) {
		t.Errorf("Encode = %x", b)
	}
	b, err := Pack(ops[:3])
	if err != nil {
		t.Fatal(err)
	}
	if !slices.Equal(dots, dotsAsTheyWere) || !slices.EqualFunc(ops, opsAsTheyWere, sameOp) {
		t.Errorf("written into: %v, %v", dots, ops)
	}

	two, err := Unpack(packed(2, asBytes(ops[0]), asBytes(ops[0])))
	if err != nil {
		t.Fatal(err)
	}
	two[0].Seen[0].N = 99
	two[0].Seen = append(two[0].Seen, api.Dot{Who: 8, N: 8})
	if !slices.Equal(two[1].Seen, points(3)) || !slices.Equal(dots, dotsAsTheyWere) {
		t.Errorf("shared: %v, %v", two[1].Seen, dots)
	}
	again, err := Unpack(b)
	if !slices.EqualFunc(again, opsAsTheyWere[:3], sameOp) || err != nil {
		t.Errorf("Unpack = %v, %v", again, err)
	}
}

func TestCopySharesNothing(t *testing.T) {
	for _, o := range rightOps() {
		if got := Copy(o); !sameOp(got, o) {
			t.Errorf("Copy(%v) = %v", o, got)
		}
	}
	dots := points(3)
	for n := range dots {
		o := changed(join, func(o *api.Op) { o.Seen = dots[:n] })
		got := Copy(o)
		seen := append(got.Seen, api.Dot{Who: 7, N: 7})
		for i := range seen {
			seen[i] = api.Dot{Who: 8, N: 8}
		}
		if !slices.Equal(dots, points(3)) {
			t.Errorf("%d seen: what was handed in is now %v", n, dots)
		}
		if n == 0 && cap(got.Seen) > 0 {
			t.Errorf("there is room behind an empty list")
		}
	}
}
