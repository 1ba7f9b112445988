package shell_test

import (
	"math/rand"
	"regexp"
	"strconv"
	"strings"
	"testing"
)

// The chapter's words and lines, told a second time, as patterns.
const (
	gapForm     = `[ \t]+`
	literalForm = `"(?:[^"\\\x00-\x1f]|\\"|\\\\|\\x[0-9a-f][0-9a-f])*"`
	numberForm  = `(?:0|-?[1-9][0-9]*)`
	nameForm    = `[a-z][a-z0-9_]*`
)

// row is parts with gaps between them: L, N and F stand for a literal, a number and a name.
func row(parts string) string {
	l := strings.Fields(parts)
	for i, p := range l {
		switch p {
		case "L":
			l[i] = literalForm
		case "N":
			l[i] = numberForm
		case "F":
			l[i] = nameForm
		}
	}
	return strings.Join(l, gapForm)
}

func maybe(form string) string { return `(?:` + gapForm + form + `)?` }

func many(form string) string { return `(?:` + gapForm + form + `)*` }

func lineForms() []string {
	question := row("L L N N N") + maybe("back") + maybe(row("fam F")+many(row(", F"))) + maybe(row("prefix L")) + maybe(row("where L")) + maybe(row("token L"))
	cond := `(?:` + row("if (?:there|absent) F L") + `|` + row("if (?:same|other|below|above) F L L") + `)`
	op := `(?:` + strings.Join([]string{row("put F L N L"), row("cell F L N"), row("col F L N"), row("fam F N"), row("add F L N")}, "|") + `)`
	family := row("F N N")
	return []string{
		"table" + gapForm + family + many(","+gapForm+family), row("open N N N N"), "close", "session", row("end N N"), row("tick N"), row("advance N"),
		row("mutate N N L") + many(cond) + gapForm + op + many(op), row("ask N N") + gapForm + question, `get` + gapForm + question,
		"flush", row("compact (?:major|minor)"), row("step N"), "finish", "abort", "runs", row("dump N"), "stat", "digest", row("verify N"), "backup",
		row("arm N"), "crash" + many(numberForm), "files", row("flip L N"), "restore",
	}
}

var (
	wholeForm = regexp.MustCompile(`(?s)^[ \t]*(?:` + strings.Join(lineForms(), "|") + `)(?:[ \t]*|[ \t]+#.*)$`)
	blankForm = regexp.MustCompile(`(?s)^[ \t]*(?:#.*)?$`)
	pieceForm = regexp.MustCompile(literalForm + `|[^ \t]+`)
)

// isLine tells whether words fit; those of numbers must be an int's.
func isLine(line string) bool {
	if !wholeForm.MatchString(line) {
		return false
	}
	for _, p := range pieceForm.FindAllString(line, -1) {
		if strings.HasPrefix(p, "#") {
			break
		}
		if _, err := strconv.Atoi(p); err != nil && (p[0] == '-' || p[0] >= '0' && p[0] <= '9') {
			return false
		}
	}
	return true
}

// goodLines: at least one of each form.
var goodLines = []string{
	`table f 2 0`, `table a 1 0 , b 2 3 , c 16 9`, `table f 1 0 , f -1 99`, `open 64 10 4096 8`, `open -1 0 0 0`, `close`, `session`, `end 1 2`, `tick 3`, `advance 0`,
	`mutate 0 0 "r" put f "q" 5 "x"`, `mutate 1 -2 "" if there f "q" if absent g "" if same f "q" "v" if other f "q" "v" if below f "q" "v" if above f "q" "v" put f "q" 0 "" cell f "q" 1 col f "q" 2 fam f 3 add f "q" -4`,
	`mutate 0 0 "r" fam fam 1`, `mutate 0 0 "r" if there if "q" fam put 1`,
	`ask 1 1 "" "" 1 9 0`, `ask 1 1 "" "" 1 9 0 back fam f , g prefix "p" where "w" token "t"`, `get "a" "b" 1 9 0`, `get "a" "b" 1 9 0 fam f`, `get "" "" 1 9 0 prefix "p" token "t"`, `get "" "" 1 9 0 back where "ts > 1"`,
	`get "" "" 1 9 0 fam back , fam , prefix prefix ""`,
	`flush`, `compact major`, `compact minor`, `step 1`, `finish`, `abort`, `runs`, `dump 0`, `stat`, `digest`, `verify 2`, `backup`, `arm 1`, `crash`, `crash 1 -2 3`, `files`, `flip "k.MANIFEST" 7`, `restore`,
	"\t flip \t \"\\x00\\\"\\\\\x7f\xff\xc3\xa4 #\" 9223372036854775807 \t # \"", `flip "a" -9223372036854775808`, `stat #`, `#`, ``, "  ", "\t#\n\x00",
}

// badLines: what looks like a line, and is none.
var badLines = []string{
	`Stat`, `stats`, `sta t`, `s`, `1`, `"stat"`, `,`, `stat ,`, `stat stat`, `stat 0`, `-`, `- 1`, `tick -`, `tick --1`, `tick +1`, `tick 01`, `tick -0`, `tick -01`, `tick 00`, `tick 1.`, `tick 1e1`, `tick 0x1`, `tick 1_0`,
	`tick 9223372036854775808`, `tick -9223372036854775809`, `tick 99999999999999999999`, `tick "1"`, `tick a`, `tick 1 2`, `tick`, `tick 1#`, `tick 1 1#`, `stat#`, `stat "#`,
	`flip "a"1`, `flip"a" 1`, `flip "a" 1"`, `flip "a""b" 1`, `flip "a 1`, `flip a" 1`, `flip 'a' 1`, `flip "\" 1`, `flip "\a" 1`, `flip "\x" 1`, `flip "\x4" 1`, `flip "\x4G" 1`, `flip "\xAB" 1`, `flip "\X41" 1`, `flip "\n" 1`, "flip \"\t\" 1", "flip \"\n\" 1", "flip \"\x1f\" 1", "flip \"\x00\" 1",
	`flip 1 "a"`, `flip "a"`, `flip "a" "b"`, `flip k 1`, "stat\n", "stat\r", "stat\x00", "stat\v", "stat\u00a0", "stat\u0085", "\ufeffstat", "\x80", "stat\x80",
	`table`, `table f`, `table f 1`, `table f 1 0 ,`, `table f 1 0 g 1 0`, `table f 1 0, g 1 0`, `table f 1 0 , , g 1 0`, `table , f 1 0`, `table "f" 1 0`, `table F 1 0`, `table _f 1 0`, `table f-g 1 0`, `table 1 f 0`,
	`open`, `open 64 10 4096`, `open 64 10 4096 8 1`, `open a b c d`, `close 1`, `session 1`, `end`, `end 1`, `end 1 2 3`, `advance`, `advance 1 2`,
	`mutate`, `mutate 0 0`, `mutate 0 0 "r"`, `mutate 0 "r" put f "q" 5 "x"`, `mutate 0 0 r put f "q" 5 "x"`, `mutate 0 0 "r" if`, `mutate 0 0 "r" if there f "q"`, `mutate 0 0 "r" put f "q" 5`, `mutate 0 0 "r" put f "q" "x"`, `mutate 0 0 "r" put f "q" "x" 5`,
	`mutate 0 0 "r" put "f" "q" 5 "x"`, `mutate 0 0 "r" put f "q" 5 "x" if there f "q"`, `mutate 0 0 "r" there f "q" put f "q" 5 "x"`, `mutate 0 0 "r" if there f "q" "v" put f "q" 5 "x"`, `mutate 0 0 "r" if same f "q" put f "q" 5 "x"`, `mutate 0 0 "r" if where f "q" put f "q" 5 "x"`,
	`mutate 0 0 "r" cell f "q" 1 "x"`, `mutate 0 0 "r" cell f 1`, `mutate 0 0 "r" col f "q"`, `mutate 0 0 "r" fam f "q" 1`, `mutate 0 0 "r" fam f`, `mutate 0 0 "r" add f "q"`, `mutate 0 0 "r" add f "q" "1"`, `mutate 0 0 "r" add f "q" 1 2`, `mutate 0 0 "r" put f "q" 5 "x" , put f "q" 5 "x"`, `mutate 0 0 "r" sub f "q" 1`,
	`mutate 0 0 "r" "put" f "q" 5 "x"`, `mutate 0 0 "r" "if" there f "q" put f "q" 5 "x"`,
	`ask`, `ask 1`, `ask 1 1`, `ask "" "" 1 9 0`, `get`, `get ""`, `get "" ""`, `get "" "" 1`, `get "" "" 1 9`, `get "" "" 1 9 0 0`, `get "" "" 1 9 "0"`, `get a b 1 9 0`, `get "" "" 1 9 0 back back`, `get "" "" 1 9 0 fam`, `get "" "" 1 9 0 fam f g`, `get "" "" 1 9 0 fam f ,`, `get "" "" 1 9 0 fam , f`, `get "" "" 1 9 0 fam "f"`,
	`get "" "" 1 9 0 fam f back`, `get "" "" 1 9 0 fam f fam g`, `get "" "" 1 9 0 prefix`, `get "" "" 1 9 0 prefix p`, `get "" "" 1 9 0 prefix "p" fam f`, `get "" "" 1 9 0 where ts > 1`, `get "" "" 1 9 0 where "w" prefix "p"`, `get "" "" 1 9 0 token`, `get "" "" 1 9 0 token "t" token "t"`, `get "" "" 1 9 0 token "t" where "w"`, `get "" "" 1 9 0 "back"`, `get "" "" 1 9 0 from`,
	`flush 1`, `compact`, `compact all`, `compact major minor`, `compact major major`, `compact 1`, `compact "major"`, `step`, `step a`, `finish 1`, `abort 1`, `runs 1`, `dump`, `dump a`, `dump 1 2`, `stat 1`, `digest 1`, `verify`, `verify 1 1`, `backup 1`, `arm`, `arm 1 1`, `arm 1,`, `crash a`, `crash 1 , 2`, `crash 1 a`, `files 1`, `files "k."`, `flip`, `restore 1`,
}

// 20.3, 20.4: the tables of good and bad lines are told apart, here and by the patterns.
func TestLinesAndWhatIsNone(t *testing.T) {
	for _, line := range goodLines {
		if got := begin(t, 0).Do(line); got == "error 200" || !isLine(line) && !blankForm.MatchString(line) {
			t.Errorf("%q answers %q", line, got)
		}
		if got := begin(t, 0).Do(line); (got == "") != blankForm.MatchString(line) {
			t.Errorf("%q answers %q", line, got)
		}
	}
	x := opened(t)
	before := x.Do("stat") + filesText(x.Files())
	for _, line := range badLines {
		for name, x := range map[string]interface{ Do(string) string }{"new": begin(t, 0), "open": x} {
			if got := x.Do(line); got != "error 200" || isLine(line) || blankForm.MatchString(line) {
				t.Errorf("%s: %q answers %q", name, line, got)
			}
		}
	}
	if after := x.Do("stat") + filesText(x.Files()); after != before {
		t.Errorf("%s, before %s", after, before)
	}
}

// changed is a line with some bytes, or some words, put in, left out or moved.
func changed(r *rand.Rand, line string) string {
	for range 1 + r.Intn(3) {
		at := r.Intn(len(line) + 1)
		end := min(len(line), at+r.Intn(2))
		words := strings.Split(line, " ")
		i, j := r.Intn(len(words)), r.Intn(len(words))
		switch r.Intn(8) {
		case 0, 1:
			line = line[:at] + pick(r, " ", "\t", "#", `"`, `\`, `\x4`, `,`, "0", "-", "a", "_", "A", "f", "\n", "\x00", "\x1f", "\x7f", "\x80", "\xc3\xa4", "\xe2\x82", " , ", " 0 ", ` "" `, " if ", " fam f ", " back ") + line[end:]
		case 2:
			line = line[:at] + line[end:]
		case 3:
			words[i], words[j] = words[j], words[i]
			line = strings.Join(words, " ")
		case 4:
			line = strings.Join(append(words[:i:i], words[i+1:]...), " ")
		case 5:
			line = strings.Join(append(words[:i:i], words[j:]...), " ")
		case 6:
			words[i] = pick(r, words[j], "0", `""`, "f", ",", "put", "if", "there")
			line = strings.Join(words, pick(r, " ", "\t", "  "))
		case 7:
			line = pick(r, "", " ", "\t") + line + pick(r, " #", " # x", "\t", " #\"", "#", " ")
		}
	}
	return line
}

func pick(r *rand.Rand, l ...string) string { return l[r.Intn(len(l))] }

// 20.3, 20.4: whatever line comes, it is one just if the patterns say so.
func TestLinesThatWereChanged(t *testing.T) {
	total := manySeeds(t, 16, func(t *testing.T, seed int, count map[string]int) {
		r := rand.New(rand.NewSource(int64(seed)))
		for range 6000 {
			line := changed(r, pick(r, [][]string{goodLines, goodLines, goodLines, badLines}[r.Intn(4)]...))
			want := "none"
			if blankForm.MatchString(line) {
				want = "blank"
			} else if isLine(line) {
				want = "a line"
			}
			count[want]++
			got := begin(t, 0).Do(line)
			if (got == "error 200") != (want == "none") || (got == "") != (want == "blank") || strings.Contains(got, "\n") {
				t.Fatalf("%q answers %q, but it is %s", line, got, want)
			}
		}
	})
	atLeast(t, total, map[string]int{"a line": 8000, "none": 10000, "blank": 1000})
}
