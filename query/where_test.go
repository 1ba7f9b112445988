package query_test

import (
	"math/rand"
	"slices"
	"strings"
	"testing"

	"strata/api"
	"strata/query"
)

func mustWhere(t *testing.T, s api.Schema, text, canon string) {
	t.Helper()
	if got, err, at := query.ParseWhere(s, text); got != canon || err != api.OK || at != 0 {
		t.Errorf("ParseWhere(%q): %q, %d, %d, want %q", text, got, err, at, canon)
	}
}

func mustNoWhere(t *testing.T, s api.Schema, text string, place int) {
	t.Helper()
	if got, err, at := query.ParseWhere(s, text); got != "" || err != api.ErrWhere || at != place {
		t.Errorf("ParseWhere(%q): %q, %d, %d, want the place %d", text, got, err, at, place)
	}
}

// 13.3, 13.4: the canonical text.
func TestParseWhere(t *testing.T) {
	for _, c := range []struct{ text, canon string }{
		// the chapter's examples
		{`qual="x"and ts>=5`, `qual = "x" and ts >= 5`},
		{`not ( fam = a or value ^ "\00\"" )`, `not (fam = a or value ^ "\00\"")`},
		{`value = "\41"`, `value = "A"`},
		// every test with every sign
		{`fam=a`, `fam = a`}, {`fam!=b`, `fam != b`},
		{`qual="x"`, `qual = "x"`}, {`qual!="x"`, `qual != "x"`}, {`qual<"x"`, `qual < "x"`}, {`qual<="x"`, `qual <= "x"`},
		{`qual>"x"`, `qual > "x"`}, {`qual>="x"`, `qual >= "x"`}, {`qual^"x"`, `qual ^ "x"`},
		{`value="x"`, `value = "x"`}, {`value!="x"`, `value != "x"`}, {`value<"x"`, `value < "x"`}, {`value<="x"`, `value <= "x"`},
		{`value>"x"`, `value > "x"`}, {`value>="x"`, `value >= "x"`}, {`value^"x"`, `value ^ "x"`},
		{`ts=5`, `ts = 5`}, {`ts!=5`, `ts != 5`}, {`ts<5`, `ts < 5`}, {`ts<=5`, `ts <= 5`}, {`ts>5`, `ts > 5`}, {`ts>=5`, `ts >= 5`},
		// numbers at their bounds, and with a word right behind them
		{`ts=0`, `ts = 0`}, {`ts<=1099511627776`, `ts <= 1099511627776`}, {`ts=10or ts=1and ts=2`, `ts = 10 or ts = 1 and ts = 2`},
		// blanks
		{`   ts   =   1   `, `ts = 1`}, {`( ( ts=1 ) )`, `((ts = 1))`}, {`((ts=1))`, `((ts = 1))`},
		{`not(ts=1)`, `not (ts = 1)`}, {`(not ts=1)and(ts=2)`, `(not ts = 1) and (ts = 2)`}, {`not not ts=1`, `not not ts = 1`},
		// brackets stay, needed or not
		{`(ts=1)or((ts=2)and ts=3)`, `(ts = 1) or ((ts = 2) and ts = 3)`},
		// strings: each way to write a byte, words and signs within them
		{`qual=""`, `qual = ""`}, {`qual="\22\5c\"\\"`, `qual = "\"\\\"\\"`}, {`qual=" !~\20\7e\7f\1f\80\ff\0a"`, `qual = " !~ ~\7f\1f\80\ff\0a"`},
		{`qual="( )"and value="not  (or) <="`, `qual = "( )" and value = "not  (or) <="`}, {`value="\61\62cd"`, `value = "abcd"`}, {`value="\\41"`, `value = "\\41"`},
	} {
		mustWhere(t, two, c.text, c.canon)
	}
	for _, c := range []struct{ text, canon string }{
		{`fam=and and fam=not`, `fam = and and fam = not`},
		{`not fam != not or not(fam=and)`, `not fam != not or not (fam = and)`},
		{`fam=fam_0and ts=1`, ``}, // one name, as far as it goes
		{`fam=fam_0 and ts=1`, `fam = fam_0 and ts = 1`},
	} {
		if c.canon == "" {
			mustNoWhere(t, three, c.text, 4)
			continue
		}
		mustWhere(t, three, c.text, c.canon)
	}
}

// 13.4: the place of what is wrong.
func TestWhereNoConditionStands(t *testing.T) {
	for _, c := range []struct {
		text  string
		place int
	}{
		// the chapter's examples
		{``, 0}, {`qual`, 4}, {`qual =`, 6}, {`fam = c`, 6}, {`fam < a`, 4}, {`ts = 05`, 5}, {`ts = "5"`, 5},
		{`qual = "x`, 7}, {`qual = "x" qual`, 11}, {`(ts = 1`, 7}, {`ts = 1)`, 6},
		// it ends too early: len(text), blanks and all
		{`   `, 3}, {`qual =  `, 8}, {`not`, 3}, {`(`, 1}, {`ts = 1 and `, 11}, {`ts = 1 or`, 9}, {`((ts = 1) `, 10}, {`fam !=`, 6}, {`fam`, 3}, {`ts <`, 4},
		// a word that may not stand there
		{`and`, 0}, {`or ts = 1`, 0}, {`)`, 0}, {`()`, 1}, {`= 5`, 0}, {`"x"`, 0}, {`5`, 0}, {`a`, 0}, {`nots = 1`, 0}, {`ts = 1 ts`, 7}, {`ts = 1 not ts = 2`, 7}, {`ts = 1 (`, 7},
		{`ts = 1 and and`, 11}, {`ts = 1 or or`, 10}, {`ts = 1 and or`, 11}, {`ts = 1 and )`, 11}, {`not )`, 4}, {`not and`, 4}, {`ts 5`, 3}, {`ts = = 5`, 5}, {`ts == 5`, 4}, {`ts < = 5`, 5}, {`ts =< 5`, 4}, {`ts => 5`, 4}, {`ts <> 5`, 4},
		{`ts ^ 5`, 3}, {`fam ^ a`, 4}, {`fam <= a`, 4}, {`fam >= a`, 4}, {`fam > a`, 4}, {`fam = "a"`, 6}, {`fam = 5`, 6}, {`fam = =`, 6}, {`fam = (`, 6}, {`qual = x`, 7}, {`qual = 5`, 7}, {`value = a`, 8}, {`ts = a`, 5}, {`ts = 1 5`, 7}, {`ts = 5x`, 6}, {`ts = 5"x"`, 6},
		{`ts = 1)) `, 6}, {`(ts = 1))`, 8}, {`(ts = 1 ts = 2)`, 8}, {`qual = "x""y"`, 10}, {`value = "a" "b"`, 12}, {`qual value = "x"`, 5}, {`value = qual`, 8}, {`fam = a b`, 8}, {`ts = 1 fam = a`, 7},
		// a byte that begins no word
		{`?`, 0}, {`_a = 1`, 0}, {`A`, 0}, {"\tts = 1", 0}, {"ts = 1\n", 6}, {"ts\x00= 1", 2}, {"ts = 1 \xc3\xa4", 7}, {`ts ! 5`, 3}, {`ts !! 5`, 3}, {`ts = -5`, 5}, {`ts = +5`, 5}, {`ts = 5.`, 6}, {`ts = 5_`, 6}, {`qual = 'x'`, 7}, {`ts = 1 && ts = 2`, 7}, {`ts = 1 AND ts = 2`, 7}, {`Qual = "x"`, 0}, {`qUal = "x"`, 0}, {`fam = A`, 6}, {`fam = _a`, 6}, {`fam = aB`, 7}, {`\`, 0},
		// numbers that are none
		{`ts = 00`, 5}, {`ts = 01`, 5}, {`ts = 1099511627777`, 5}, {`ts = 10995116277760`, 5}, {`ts = 18446744073709551616`, 5}, {`ts = 18446744073709551617`, 5}, {`ts = 9223372036854775808`, 5}, {`ts = ` + strings.Repeat("9", 500), 5}, {`ts = ` + strings.Repeat("0", 500), 5},
		// strings that are none
		{`qual = "`, 7}, {`qual = "\`, 7}, {`qual = "\"`, 7}, {`qual = "\\\"`, 7}, {`qual = "\4`, 7}, {`qual = "\41`, 7}, {`qual = "\4"`, 7}, {`qual = "\"a`, 7}, {`qual = "\g1"`, 7}, {`qual = "\1g"`, 7}, {`qual = "\4A"`, 7}, {`qual = "\A4"`, 7}, {`qual = "\n"`, 7}, {`qual = "\x41"`, 7}, {`qual = "\ 1"`, 7}, {"qual = \"\x1f\"", 7}, {"qual = \"\x7f\"", 7}, {"qual = \"\x00\"", 7}, {"qual = \"\xff\"", 7}, {"qual = \"ä\"", 7}, {"qual = \"a\nb\"", 7},
		// the first one from the left
		{`fam = c and ?`, 6}, {`fam = a and ? or fam = c`, 12}, {`ts = 05 "x`, 5}, {`or "x`, 0}, {`ts "x`, 3}, {`fam = c )`, 6}, {`qual = "\zz" and 05`, 7}, {strings.Repeat("(", 17) + `?`, 16}, {strings.Repeat("(", 16) + `?(`, 16}, {strings.Repeat("(", 17), 16}, {strings.Repeat("(", 16), 16},
	} {
		mustNoWhere(t, two, c.text, c.place)
	}
	// a family of another schema
	mustNoWhere(t, three, `fam = and and fam = a`, 20)
	mustNoWhere(t, three, `fam = or`, 6)
	mustNoWhere(t, three, `fam = an`, 6)
	mustNoWhere(t, three, `fam = fam_`, 6)
	mustNoWhere(t, three, `fam = fam_00`, 6)
	mustNoWhere(t, two, `fam = fam`, 6)
}

// 13.4: how many brackets and nots may be open at once.
func TestNesting(t *testing.T) {
	wrap := func(n int, open, within, behind string) string {
		return strings.Repeat(open, n) + within + strings.Repeat(behind, n)
	}
	for n := range 17 {
		mustWhere(t, two, wrap(n, "(", "ts = 1", ")"), wrap(n, "(", "ts = 1", ")"))
		mustWhere(t, two, wrap(n, "not ", "ts = 1", ""), wrap(n, "not ", "ts = 1", ""))
		// both count
		text := wrap(n, "not ", wrap(16-n, "(", "ts = 1", ")"), "")
		mustWhere(t, two, text, text)
		mustNoWhere(t, two, wrap(n, "not ", wrap(17-n, "(", "ts = 1", ")"), ""), 16+3*n)
		mustNoWhere(t, two, wrap(n, "(", wrap(17-n, "not ", "ts = 1", ""), ")"), n+4*(16-n))
	}
	mustNoWhere(t, two, wrap(17, "(", "ts = 1", ")"), 16)
	mustNoWhere(t, two, wrap(17, "not ", "ts = 1", ""), 64)
	// a not is open till its fact ends, a bracket till it is closed
	full := wrap(8, "not (", "ts = 1", ")")
	mustWhere(t, two, full+" and "+full+" or "+full, full+" and "+full+" or "+full)
	mustNoWhere(t, two, full+" and ("+full+")", len(full)+6+35+4)
	nots := strings.TrimSpace(strings.Repeat("not ts = 1 and ", 30))
	mustWhere(t, two, strings.TrimSuffix(nots, " and"), strings.TrimSuffix(nots, " and"))
	inner := strings.Repeat("(", 15) + "not ts = 1 and not ts = 2 or (ts = 3) and not ts = 4" + strings.Repeat(")", 15)
	mustWhere(t, two, inner, inner)
	deeper := strings.Repeat("(", 15) + "not ts = 1 and not (ts = 2)" + strings.Repeat(")", 15)
	mustNoWhere(t, two, deeper, 15+len("not ts = 1 and not "))
	// within its fact it stays open, behind an `and` in brackets too
	held := strings.Repeat("not ", 15) + "(ts = 1 and not ts = 2)"
	mustNoWhere(t, two, held, 60+len("(ts = 1 and "))
}

// 13.4: the longest text, and one byte more.
func TestLongestCondition(t *testing.T) {
	text := `qual = "` + strings.Repeat("x", 503) + `"`
	mustWhere(t, two, text, text)
	mustNoWhere(t, two, text+" ", 512)
	mustNoWhere(t, two, "?"+text, 512)
	mustNoWhere(t, two, strings.Repeat(" ", 512), 512)
	mustNoWhere(t, two, strings.Repeat(" ", 511)+"?", 511)
	mustNoWhere(t, two, strings.Repeat(" ", 513), 512)
	mustNoWhere(t, two, strings.Repeat("?", 1<<20), 512)
	// the canonical text may be longer than the text, and is none itself then
	ways := `ts=1` + strings.Repeat("or ts=1", 72)
	canon := `ts = 1` + strings.Repeat(" or ts = 1", 72)
	mustWhere(t, two, ways, canon)
	mustNoWhere(t, two, canon, 512)
}

// 13.4: a schema that is none, whatever the text is.
func TestWhereOfNoSchema(t *testing.T) {
	for _, s := range []api.Schema{{}, {Fams: []api.Family{{Name: "a"}}}, {Fams: []api.Family{{Name: "A", Max: 1}}}, {Fams: make([]api.Family, 9)}} {
		for _, text := range []string{"", "fam = a", "?", "ts = 1", strings.Repeat(" ", 600)} {
			if got, err, at := query.ParseWhere(s, text); got != "" || err != api.ErrSchema || at != 0 {
				t.Errorf("ParseWhere(%v, %q): %q, %d, %d", s, text, got, err, at)
			}
		}
	}
}

// holdAgainst holds ParseWhere of a text against the grammar's own machine.
func holdAgainst(t *testing.T, s api.Schema, text string) {
	t.Helper()
	words, place := wantWhere(s, text)
	got, err, at := query.ParseWhere(s, text)
	if place < 0 {
		if got != wantCanon(words) || err != api.OK || at != 0 {
			t.Fatalf("ParseWhere(%q): %q, %d, %d, want %q", text, got, err, at, wantCanon(words))
		}
		return
	}
	if got != "" || err != api.ErrWhere || at != place {
		t.Fatalf("ParseWhere(%q): %q, %d, %d, want the place %d", text, got, err, at, place)
	}
}

// 13.3, 13.4: every list of up to four words, and longer ones with fewer to choose from.
func TestEveryListOfWords(t *testing.T) {
	var each func(l, words []string, n int)
	each = func(l, words []string, n int) {
		holdAgainst(t, three, strings.Join(words, " "))
		for _, w := range l {
			if n > 0 {
				each(l, append(slices.Clone(words), w), n-1)
			}
		}
	}
	each([]string{"and", "or", "not", "fam", "qual", "value", "ts", "(", ")", "=", "!=", "<", ">=", "^", "5", "05", `"x"`, `"x`, "c", "?"}, nil, 4)
	each([]string{"and", "not", "fam", "ts", "(", ")", "=", "5"}, nil, 6)
}

// 13.3, 13.4: drawn conditions with any blanks, whole and spoilt.
func TestDrawnConditions(t *testing.T) {
	r := rand.New(rand.NewSource(134))
	for i := range 30000 {
		s := []api.Schema{two, three}[i%2]
		text := lay(r, drawCond(r, s, r.Intn(6)))
		holdAgainst(t, s, text)
		holdAgainst(t, s, spoil(r, text))
		holdAgainst(t, s, spoil(r, spoil(r, text)))
	}
}

// spoil turns, drops, doubles or moves a byte of a text, or cuts it off.
func spoil(r *rand.Rand, text string) string {
	i := r.Intn(len(text) + 1)
	j := min(len(text), i+r.Intn(4))
	switch r.Intn(4) {
	case 0:
		return text[:i] + text[j:]
	case 1:
		return text[:j] + text[i:]
	case 2:
		return text[:i]
	}
	l := []string{" ", `"`, `\`, "(", ")", "=", "<", "!", "0", "9", "a", "_", "\x00", "\xff", "not ", "\t", "and "}
	return text[:i] + l[r.Intn(len(l))] + text[j:]
}

// 13.3: every byte in the place of every other one.
func TestEveryByteOfACondition(t *testing.T) {
	for _, text := range []string{`not(fam!=b and qual<="x\"\0f")or ts>=10`, `value ^ "\\ \41" or ts < 5`} {
		for i := range len(text) {
			for c := range 256 {
				holdAgainst(t, two, text[:i]+string([]byte{byte(c)})+text[i+1:])
				holdAgainst(t, two, text[:i]+string([]byte{byte(c)})+text[i:])
			}
		}
	}
}
