package run

import (
	"errors"
	"fmt"
	"math/rand"
	"regexp"
	"slices"
	"strconv"
	"strings"
	"testing"

	"leafbinder/api"
	"leafbinder/doc"
	"leafbinder/edit"
)

// model is a session in a plain form: three Docs, and lines that are read by
// patterns.
type model [3]*doc.Doc

const aNumber = `(0|[1-9][0-9]{0,3})`

var (
	typeLine = regexp.MustCompile(`(?s)^type ` + aNumber + ` ` + aNumber + ` (.*)$`)
	twoLine  = regexp.MustCompile(`^(erase|cut|fuse|send) ` + aNumber + ` ` + aNumber + `$`)
	oneLine  = regexp.MustCompile(`^(show|parts|who) ` + aNumber + `$`)
)

func plainRun(text string) string {
	if len(text) > 3000 {
		return "too long\n"
	}
	m := model{doc.New(), doc.New(), doc.New()}
	pieces := strings.Split(text, "\n")
	if pieces[len(pieces)-1] == "" {
		pieces = pieces[:len(pieces)-1]
	}
	all := ""
	for _, line := range pieces {
		all += m.answer(line) + "\n"
	}
	return all
}

func (m model) answer(line string) string {
	if line == "same" {
		return m.same()
	}
	if w := typeLine.FindStringSubmatch(line); w != nil {
		return m.typed(digits(w[1]), digits(w[2]), w[3])
	}
	if w := twoLine.FindStringSubmatch(line); w != nil {
		return m.two(w[1], digits(w[2]), digits(w[3]))
	}
	if w := oneLine.FindStringSubmatch(line); w != nil {
		return m.one(w[1], digits(w[2]))
	}
	return "bad"
}

func digits(word string) int {
	n, _ := strconv.Atoi(word)
	return n
}

func named(err error) string {
	if err == nil {
		return "ok"
	}
	for e, name := range map[api.Errno]string{
		1: "ErrRange", 2: "ErrSyntax", 3: "ErrShape", 4: "ErrFull", 5: "ErrNone", 6: "ErrState", 7: "ErrClash", 8: "ErrDeep",
	} {
		if errors.Is(err, e) {
			return name
		}
	}
	return "an error without a name"
}

func (m model) typed(node, offset int, text string) string {
	for i, c := range []byte(text) {
		if node > 2 || c < 32 || c > 126 {
			return "ErrRange"
		}
		ops, err := edit.Insert(m[node], node+1, offset+i, string(rune(c)))
		if err == nil {
			err = edit.Do(m[node], ops)
		}
		if err != nil {
			return named(err)
		}
	}
	return "ok"
}

func (m model) two(word string, a, b int) string {
	if a > 2 || word == "send" && b > 2 {
		return "ErrRange"
	}
	var ops []api.Op
	var err error
	switch word {
	case "erase":
		ops, err = edit.Delete(m[a], a+1, b, b+1)
	case "cut":
		ops, err = edit.Split(m[a], a+1, b)
	case "fuse":
		ops, err = edit.Fuse(m[a], a+1, b)
	case "send":
		if a == b {
			return "ErrShape"
		}
		// What the other one knows changes nothing there.
		return named(edit.Do(m[b], m[a].Ops()))
	}
	if err == nil {
		err = edit.Do(m[a], ops)
	}
	return named(err)
}

func (m model) one(word string, node int) string {
	if node > 2 {
		return "ErrRange"
	}
	seen, counts := "", [3]int{}
	cuts := m[node].Marks()
	for _, leaf := range m[node].Book() {
		seen += cutsUpTo(&cuts, leaf.Place)
		if leaf.Letter != 0 && !leaf.Struck {
			seen += string(rune(leaf.Letter))
			counts[leaf.Place[len(leaf.Place)-1]-'b']++
		}
	}
	seen += cutsUpTo(&cuts, "~")
	switch word {
	case "show":
		return "'" + strings.ReplaceAll(seen, "\n", "") + "'"
	case "parts":
		return strings.ReplaceAll(seen, "\n", "|")
	}
	return fmt.Sprintf("%d %d %d", counts[0], counts[1], counts[2])
}

// cutsUpTo takes the marks up to a place away: a line end, which no letter is,
// for each place of them.
func cutsUpTo(cuts *[]api.Mark, place string) string {
	ends, last := "", ""
	for len(*cuts) > 0 && (*cuts)[0].Place <= place {
		if (*cuts)[0].Place != last {
			ends += "\n"
		}
		last = (*cuts)[0].Place
		*cuts = (*cuts)[1:]
	}
	return ends
}

func (m model) same() string {
	for _, d := range m[1:] {
		if !slices.Equal(d.Book(), m[0].Book()) || !slices.Equal(d.Marks(), m[0].Marks()) {
			return "no"
		}
	}
	return "yes"
}

// anyLine of a session: mostly one that is taken.
func anyLine(r *rand.Rand) string {
	node, other, offset := r.Intn(3), r.Intn(3), r.Intn(12)
	if r.Intn(20) == 0 {
		node = 3 + r.Intn(9)
	}
	switch r.Intn(12) {
	case 0, 1, 2:
		return fmt.Sprintf("type %d %d %s", node, min(offset, r.Intn(8)), anyWords(r))
	case 3:
		return fmt.Sprintf("erase %d %d", node, offset)
	case 4:
		return fmt.Sprintf("cut %d %d", node, offset)
	case 5:
		return fmt.Sprintf("fuse %d %d", node, offset)
	case 6, 7:
		return fmt.Sprintf("send %d %d", node, other)
	case 8:
		return fmt.Sprintf("show %d", node)
	case 9:
		return fmt.Sprintf("parts %d", node)
	case 10:
		return fmt.Sprintf("who %d", node)
	}
	return "same"
}

func anyWords(r *rand.Rand) string {
	text := make([]byte, r.Intn(10))
	for i := range text {
		text[i] = byte(32 + r.Intn(95))
		if r.Intn(80) == 0 {
			text[i] = byte(128 + r.Intn(128))
		}
	}
	return string(text)
}

// spoilt is a line with a byte more, less, or another one.
func spoilt(r *rand.Rand, line string) string {
	i := r.Intn(len(line))
	among := "  00123459-+abstw'|\t\r\x00\xff"
	at := r.Intn(len(among))
	with := among[at : at+1]
	switch r.Intn(3) {
	case 0:
		return line[:i] + with + line[i:]
	case 1:
		return line[:i] + line[i+1:]
	}
	return line[:i] + with + line[i+1:]
}

// anySession of which each oneIn-th line is spoilt.
func anySession(r *rand.Rand, long, oneIn int) []string {
	var session []string
	for range long {
		line := anyLine(r)
		if r.Intn(oneIn) == 0 {
			line = spoilt(r, line)
		}
		session = append(session, line)
	}
	return session
}

func TestAgainstAPlainForm(t *testing.T) {
	for seed := range 1500 {
		r := rand.New(rand.NewSource(int64(seed)))
		text := strings.Join(anySession(r, 1+r.Intn(200), 1+r.Intn(12)), "\n")
		if r.Intn(2) == 0 {
			text += "\n"
		}
		if got, want := Run(text), plainRun(text); got != want {
			t.Fatalf("seed %d: Run(%q) = %q, want %q", seed, text, got, want)
		}
	}
}

// TestAnyBytes: whatever they are, each line is answered by one line.
func TestAnyBytes(t *testing.T) {
	for seed := range 2000 {
		r := rand.New(rand.NewSource(int64(seed)))
		among := []string{"\n \x000a", "types how019 \n", "\n"}[r.Intn(3)]
		text := make([]byte, r.Intn(60))
		for i := range text {
			text[i] = among[r.Intn(len(among))]
			if r.Intn(9) == 0 {
				text[i] = byte(r.Intn(256))
			}
		}
		if got, want := Run(string(text)), plainRun(string(text)); got != want {
			t.Fatalf("Run(%q) = %q, want %q", text, got, want)
		}
	}
}

// wantBegun tells whether the answers to lines are the beginning of those to
// all, and as many as the lines.
func wantBegun(t *testing.T, first, rest []string) {
	t.Helper()
	begin := ""
	for _, line := range first {
		begin += line + "\n"
	}
	text := begin + strings.Join(rest, "\n")
	if len(text) > api.MaxRun {
		t.Fatalf("a text of %d bytes", len(text))
	}
	answers, all := Run(begin), Run(text)
	if !strings.HasPrefix(all, answers) || strings.Count(answers, "\n") != len(first) {
		t.Fatalf("Run(%q) = %q, but Run(%q) = %q", begin, answers, text, all)
	}
	// Without the last line's end they are the same.
	if n := len(first); n > 0 && first[n-1] != "" && Run(begin[:len(begin)-1]) != answers {
		t.Fatalf("Run(%q) = %q, but %q without the last byte", begin, answers, Run(begin[:len(begin)-1]))
	}
}

// TestTheFirstAnswersStay, wherever a session is cut.
func TestTheFirstAnswersStay(t *testing.T) {
	for seed := range 30 {
		r := rand.New(rand.NewSource(int64(seed)))
		session := anySession(r, 60, 6)
		for i := range len(session) + 1 {
			wantBegun(t, session[:i], session[i:])
		}
	}
}

// TestTheFirstAnswersStayWhateverFollows: one session, and each line behind it.
func TestTheFirstAnswersStayWhateverFollows(t *testing.T) {
	first := []string{"type 0 0 abc", "cut 0 1", "send 0 1", "", "show 1", "parts 1", "same", "who 1", "erase 1 9", "fuse 1 0", "send 1 1"}
	answers := "ok\nok\nok\nbad\n'abc'\na|bc\nno\n3 0 0\nErrRange\nErrNone\nErrShape\n"
	wantRun(t, strings.Join(first, "\n"), answers)
	follow := []string{
		"", " ", "type 0 0 xyz", "type 0 0 x\x01", "type 0 0", "erase 0 0", "erase 1 0", "cut 1 0", "fuse 0 1", "send 0 2", "send 1 0", "show 0", "parts 0",
		"same", "who 0", "bad", "\xff", strings.Repeat("a", 2800),
	}
	for _, line := range follow {
		for n := range 4 {
			wantBegun(t, first, slices.Repeat([]string{line}, min(n, 1+2800/(1+len(line)))))
		}
		got := Run(strings.Join(append(slices.Clone(first), line), "\n"))
		if !strings.HasPrefix(got, answers) {
			t.Errorf("with %.50q behind them they are answered %q, want %q first", line, got, answers)
		}
	}
	// As far as it is not too long.
	begin := strings.Join(first, "\n") + "\n"
	rest := 3000 - len(begin)
	wantRun(t, begin+strings.Repeat("\n", rest), answers+strings.Repeat("bad\n", rest))
	wantRun(t, begin+strings.Repeat("\n", rest+1), "too long\n")
}
