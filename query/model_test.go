package query_test

import (
	"bytes"
	"math/rand"
	"regexp"
	"slices"
	"strconv"
	"strings"
	"testing"

	"strata/api"
	"strata/query"
	"strata/wire"
)

var two = api.Schema{Fams: []api.Family{{Name: "a", Max: 3}, {Name: "b", Max: 3}}}

// three has families whose names are words of the language.
var three = api.Schema{Fams: []api.Family{{Name: "and", Max: 1}, {Name: "not", Max: 2}, {Name: "fam_0", Max: 16}}}

func mustErr(t *testing.T, what string, got, want api.Errno) {
	t.Helper()
	if got != want {
		t.Fatalf("%s: %d, want %d", what, got, want)
	}
}

// The grammar once more, as a machine that goes from word to word with a list of what is open.
var (
	nameForm   = regexp.MustCompile(`^[a-z][a-z0-9_]*`)
	numberForm = regexp.MustCompile(`^[0-9]+`)
	stringForm = regexp.MustCompile(`^"([ !#-\[\]-~]|\\["\\]|\\[0-9a-f][0-9a-f])*"`)
	signForm   = regexp.MustCompile(`^(!=|<=|>=|[=<>^()])`)
	escapeForm = regexp.MustCompile(`\\(["\\]|[0-9a-f][0-9a-f])`)
)

type part struct {
	text string // as it stands in the text
	at   int
}

// cut takes the first word off a text; false: there is none that is one.
func cut(text string, at int) (part, bool) {
	for strings.HasPrefix(text[at:], " ") {
		at++
	}
	rest := text[at:]
	for _, form := range []*regexp.Regexp{nameForm, numberForm, stringForm, signForm} {
		if w := form.FindString(rest); w != "" {
			return part{w, at}, form != numberForm || isNumber(w)
		}
	}
	return part{"", at}, false
}

func isNumber(w string) bool {
	n, err := strconv.ParseUint(w, 10, 64)
	return err == nil && n <= 1<<40 && strconv.FormatUint(n, 10) == w
}

// unquote is the bytes that a string stands for.
func unquote(w string) string {
	return escapeForm.ReplaceAllStringFunc(w[1:len(w)-1], func(x string) string {
		if len(x) == 2 {
			return x[1:]
		}
		n, _ := strconv.ParseUint(x[1:], 16, 8)
		return string([]byte{byte(n)})
	})
}

// wantWhere tells the words of a text, or the place where it is no condition.
func wantWhere(s api.Schema, text string) ([]string, int) {
	if len(text) > 512 {
		return nil, 512
	}
	var words []string
	var open []string
	field, state, at := "", "fact", 0
	for {
		p, is := cut(text, at)
		if p.at == len(text) {
			if state == "behind" && !slices.Contains(open, "(") {
				return words, -1
			}
			return nil, len(text)
		}
		if !is {
			return nil, p.at
		}
		next := ""
		switch {
		case state == "fact" && (p.text == "not" || p.text == "("):
			open = append(open, p.text)
			if len(open) <= 16 {
				next = "fact"
			}
		case state == "fact" && slices.Contains([]string{"fam", "qual", "value", "ts"}, p.text):
			field, next = p.text, "sign"
		case state == "sign" && slices.Contains(strings.Fields(signsOf(field)), p.text):
			next = "operand"
		case state == "operand" && isOperand(s, field, p.text):
			open, next = closeNots(open), "behind"
		case state == "behind" && (p.text == "and" || p.text == "or"):
			next = "fact"
		case state == "behind" && p.text == ")" && len(open) > 0:
			open, next = closeNots(open[:len(open)-1]), "behind"
		}
		if next == "" {
			return nil, p.at
		}
		words, state, at = append(words, p.text), next, p.at+len(p.text)
	}
}

func closeNots(open []string) []string {
	for len(open) > 0 && open[len(open)-1] == "not" {
		open = open[:len(open)-1]
	}
	return open
}

func signsOf(field string) string {
	switch field {
	case "fam":
		return "= !="
	case "ts":
		return "= != < <= > >="
	}
	return "= != < <= > >= ^"
}

func isOperand(s api.Schema, field, w string) bool {
	switch field {
	case "fam":
		return slices.ContainsFunc(s.Fams, func(f api.Family) bool { return f.Name == w })
	case "ts":
		return w[0] >= '0' && w[0] <= '9'
	}
	return w[0] == '"'
}

// wantCanon is the canonical text of words.
func wantCanon(words []string) string {
	out := ""
	for _, w := range words {
		if w[0] == '"' {
			w = wantQuote(unquote(w))
		}
		if out != "" && out[len(out)-1] != '(' && w != ")" {
			out += " "
		}
		out += w
	}
	return out
}

func wantQuote(value string) string {
	out := `"`
	for i := range len(value) {
		switch c := value[i]; {
		case c == '"':
			out += `\"`
		case c == '\\':
			out += `\\`
		case c >= ' ' && c <= '~':
			out += string(rune(c))
		default:
			out += `\` + strconv.FormatInt(int64(c>>4), 16) + strconv.FormatInt(int64(c&15), 16)
		}
	}
	return out + `"`
}

// wantHolds tells whether a condition of these words holds: it is parted at what binds least.
func wantHolds(s api.Schema, words []string, c api.Cell) bool {
	if l := splitAt(words, "or"); len(l) > 1 {
		return slices.ContainsFunc(l, func(w []string) bool { return wantHolds(s, w, c) })
	}
	if l := splitAt(words, "and"); len(l) > 1 {
		return !slices.ContainsFunc(l, func(w []string) bool { return !wantHolds(s, w, c) })
	}
	switch words[0] {
	case "not":
		return !wantHolds(s, words[1:], c)
	case "(":
		return wantHolds(s, words[1:len(words)-1], c)
	case "fam":
		return (s.Fams[c.Fam].Name == words[2]) == (words[1] == "=")
	case "ts":
		n, _ := strconv.Atoi(words[2])
		return wantSign(words[1], c.Ts-n)
	}
	field, value := string(c.Qual), unquote(words[2])
	if words[0] == "value" {
		field = string(c.Value)
	}
	if words[1] == "^" {
		return strings.HasPrefix(field, value)
	}
	return wantSign(words[1], strings.Compare(field, value))
}

func wantSign(sign string, n int) bool {
	return n == 0 && slices.Contains([]string{"=", "<=", ">="}, sign) ||
		n < 0 && slices.Contains([]string{"!=", "<", "<="}, sign) ||
		n > 0 && slices.Contains([]string{"!=", ">", ">="}, sign)
}

// splitAt parts words at a word outside of all brackets (and not in the place of a family's name).
func splitAt(words []string, at string) [][]string {
	out := [][]string{nil}
	depth := 0
	for i, w := range words {
		switch {
		case w == "(":
			depth++
		case w == ")":
			depth--
		}
		isName := i > 1 && words[i-2] == "fam" && (words[i-1] == "=" || words[i-1] == "!=")
		if w == at && depth == 0 && !isName {
			out = append(out, nil)
			continue
		}
		out[len(out)-1] = append(out[len(out)-1], w)
	}
	return out
}

// drawCond draws a condition's words.
func drawCond(r *rand.Rand, s api.Schema, depth int) []string {
	n := r.Intn(8)
	if depth == 0 {
		n = 7
	}
	switch n {
	case 0, 1:
		return append([]string{"not"}, drawFact(r, s, depth-1)...)
	case 2:
		return drawFact(r, s, depth-1)
	case 3, 4:
		return slices.Concat(drawCond(r, s, depth-1), []string{"and"}, drawCond(r, s, depth-1))
	case 5, 6:
		return slices.Concat(drawCond(r, s, depth-1), []string{"or"}, drawCond(r, s, depth-1))
	}
	return drawTest(r, s)
}

func drawFact(r *rand.Rand, s api.Schema, depth int) []string {
	if r.Intn(3) == 0 {
		return drawTest(r, s)
	}
	return slices.Concat([]string{"("}, drawCond(r, s, max(depth, 0)), []string{")"})
}

func drawTest(r *rand.Rand, s api.Schema) []string {
	field := []string{"fam", "qual", "value", "ts"}[r.Intn(4)]
	signs := strings.Fields(signsOf(field))
	sign := signs[r.Intn(len(signs))]
	switch field {
	case "fam":
		return []string{field, sign, s.Fams[r.Intn(len(s.Fams))].Name}
	case "ts":
		return []string{field, sign, strconv.Itoa(r.Intn(7))}
	}
	return []string{field, sign, drawString(r)}
}

// drawString draws a string as it may stand in a text, also spelt otherwise than the canonical text has it.
func drawString(r *rand.Rand) string {
	l := []string{"a", "b", `\61`, `\62`, `\00`, `\ff`, `\"`, `\\`, `\22`, `\5c`, " ", "~", `\7f`, `\20`}
	out := ""
	for range r.Intn(4) {
		out += l[r.Intn(len(l))]
	}
	return `"` + out + `"`
}

// lay lays words one behind the other with any blanks that may be there.
func lay(r *rand.Rand, words []string) string {
	out := strings.Repeat(" ", r.Intn(3))
	for i, w := range words {
		blanks := r.Intn(3)
		if i > 0 && blanks == 0 && (joins(words[i-1], w)) {
			blanks = 1
		}
		if i > 0 {
			out += strings.Repeat(" ", blanks)
		}
		out += w
	}
	return out + strings.Repeat(" ", r.Intn(3))
}

// joins tells whether two words would be read as others without a blank between them.
func joins(a, b string) bool {
	p, _ := cut(a+b, 0)
	return p.text != a
}

func drawCell(r *rand.Rand, s api.Schema) api.Cell {
	bytesOf := func() []byte {
		l := []string{"a", "b", "\x00", "\xff", "\"", "\\", " ", "~", "\x7f"}
		out := ""
		for range r.Intn(3) {
			out += l[r.Intn(len(l))]
		}
		return []byte(out)
	}
	return api.Cell{Fam: r.Intn(len(s.Fams)), Qual: bytesOf(), Ts: 1 + r.Intn(6), Value: bytesOf()}
}

// list is a source of rows. It counts how often it was asked.
type list struct {
	rows  []api.Row
	err   api.Errno // behind them
	asked int
}

func (l *list) Next() (api.Row, bool, api.Errno) {
	l.asked++
	if l.asked > len(l.rows) {
		return api.Row{}, false, l.err
	}
	return l.rows[l.asked-1], true, api.OK
}

// simple is rows with the cells of the chapter's examples.
func simple(names ...string) []api.Row {
	var out []api.Row
	for _, n := range names {
		out = append(out, api.Row{Row: []byte(n), Cells: []api.Cell{
			{Qual: []byte("x"), Ts: 5, Value: []byte("1")},
			{Fam: 1, Qual: []byte("y"), Ts: 4, Value: []byte("2")},
		}})
	}
	return out
}

func namesOf(p api.Page) string {
	var out []string
	for _, r := range p.Rows {
		out = append(out, string(r.Row))
	}
	return strings.Join(out, " ")
}

func sameRow(a, b api.Row) bool {
	return bytes.Equal(a.Row, b.Row) && slices.EqualFunc(a.Cells, b.Cells, func(c, d api.Cell) bool {
		return c.Fam == d.Fam && c.Ts == d.Ts && bytes.Equal(c.Qual, d.Qual) && bytes.Equal(c.Value, d.Value)
	})
}

func samePage(a, b api.Page) bool {
	return a.Done == b.Done && bytes.Equal(a.Token, b.Token) && slices.EqualFunc(a.Rows, b.Rows, sameRow)
}

// tokenOf is a token as 13.6 lays it out.
func tokenOf(q api.Query, time uint64, row string) []byte {
	return framed(slices.Concat(wire.Uint(time), wire.Bytes([]byte(row)), wire.Uint(uint64(wire.Sum(formOf(q))))))
}

func framed(body []byte) []byte {
	b, err := wire.Frame(body)
	if err != api.OK {
		panic(err)
	}
	return b
}

func formOf(q api.Query) []byte {
	form := []byte{0}
	if q.Reverse {
		form = []byte{1}
	}
	form = slices.Concat(form, wire.Bytes(q.From), wire.Bytes(q.To), wire.Uint(uint64(len(q.Fams))))
	for _, f := range q.Fams {
		form = append(form, wire.Uint(uint64(int64(f)))...)
	}
	return slices.Concat(form, wire.Bytes(q.Prefix), wire.Uint(uint64(q.Time)), wire.Uint(uint64(q.N)), wire.Bytes([]byte(q.Where)))
}

// wantRun is 13.7 once more, of a question that Check takes, with the place where the rows begin handed in.
func wantRun(s api.Schema, q api.Query, time int, behind string, src *list) (api.Page, api.Errno) {
	var page api.Page
	last, first := behind, behind == ""
	for _, r := range src.rows {
		name := string(r.Row)
		bad := name == "" || len(name) > 256
		switch {
		case first && !q.Reverse:
			bad = bad || name < string(q.From)
		case first:
			bad = bad || len(q.To) > 0 && name >= string(q.To)
		case q.Reverse:
			bad = bad || name >= last
		default:
			bad = bad || name <= last
		}
		for _, c := range r.Cells {
			bad = bad || c.Fam < 0 || c.Fam >= len(s.Fams)
		}
		if bad {
			return api.Page{}, api.ErrRows
		}
		last, first = name, false
		if q.Reverse && name < string(q.From) || !q.Reverse && len(q.To) > 0 && name >= string(q.To) {
			page.Done = true
			return page, api.OK
		}
		row := api.Row{Row: r.Row}
		for _, c := range r.Cells {
			if wantCell(s, q, c) {
				row.Cells = append(row.Cells, c)
			}
		}
		if row.Cells != nil {
			page.Rows = append(page.Rows, row)
		}
		if len(page.Rows) == q.Rows {
			page.Token = tokenOf(q, uint64(time), name)
			return page, api.OK
		}
	}
	if src.err != api.OK {
		return api.Page{}, src.err
	}
	page.Done = true
	return page, api.OK
}

func wantCell(s api.Schema, q api.Query, c api.Cell) bool {
	if len(q.Fams) > 0 && !slices.Contains(q.Fams, c.Fam) || !strings.HasPrefix(string(c.Qual), string(q.Prefix)) {
		return false
	}
	words, _ := wantWhere(s, q.Where)
	return q.Where == "" || wantHolds(s, words, c)
}

// allPages asks page by page, until it is done, of sources that show these rows (rising), and tells all of their rows.
func allPages(t *testing.T, s api.Schema, q api.Query, clock int, rows []api.Row, size func() int) []api.Row {
	t.Helper()
	var out []api.Row
	for range len(rows) + 2 {
		q.Rows = size()
		p, err := query.Run(s, q, clock, from(t, q, rows))
		mustErr(t, "Run", err, api.OK)
		out = append(out, p.Rows...)
		if p.Done {
			return out
		}
		q.Token = p.Token
	}
	t.Fatal("there is no end")
	return nil
}

// from is a source of rows (rising) from Start on.
func from(t *testing.T, q api.Query, rows []api.Row) *list {
	t.Helper()
	start, is, err := query.Start(q)
	mustErr(t, "Start", err, api.OK)
	src := &list{}
	for _, r := range rows {
		below := bytes.Compare(r.Row, start) < 0
		if !is || below == q.Reverse {
			src.rows = append(src.rows, r)
		}
	}
	if q.Reverse {
		slices.Reverse(src.rows)
	}
	return src
}
