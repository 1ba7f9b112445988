package shell_test

import (
	"fmt"
	"math"
	"math/rand"
	"strings"
	"testing"

	"strata/api"
	"strata/shell"
)

// 20.1: New has disk.New's errors; else there is an empty disk and nothing else.
func TestNew(t *testing.T) {
	for _, n := range []int{-1, math.MinInt, api.MaxDisk + 1, math.MaxInt} {
		if x, err := shell.New(n); x != nil || err != api.ErrArg {
			t.Errorf("New(%d): %v, %d", n, x, err)
		}
	}
	for _, n := range []int{0, 1, api.MaxDisk} {
		x := begin(t, n)
		if len(x.Files()) > 0 {
			t.Errorf("New(%d): %v", n, x.Files())
		}
		play(t, x, turn{"files", "ok"}, turn{"close", "error 203"}, turn{"restore", "error 203"}, turn{openLine, "error 203"}, turn{"crash", "ok 0"}, turn{"table f 1 0", "ok"}, turn{"restore", "error 202"})
	}
}

// 20.1: Files tells the disk's, also while that is down.
func TestFilesAreTheDisks(t *testing.T) {
	x := opened(t)
	put(t, x, "a", "v")
	play(t, x, turn{"arm 3", "ok"}, turn{"flush", "error 3"})
	l := x.Files()
	if len(l) != 1 || l[0].Name != "k.RUN-1" || l[0].Synced != 0 || len(l[0].Data) == 0 {
		t.Fatalf("%+v", l)
	}
	play(t, x, turn{"files", fmt.Sprintf("ok k.RUN-1:%d", len(l[0].Data))}, turn{"crash 9", "ok 1"}, turn{"files", "ok k.RUN-1:9"})
	if l := x.Files(); len(l) != 1 || l[0].Synced != 9 || len(l[0].Data) != 9 {
		t.Errorf("%+v", l)
	}
	play(t, x, turn{openLine, "ok 0 1 0"}, turn{"files", "ok"})
}

// 20.4: which lines are refused without a table, with one that is not open, and with one that is.
func TestStages(t *testing.T) {
	const never, closed, open, always = "table", "closed", "open", "always"
	for _, c := range []struct{ line, stage string }{
		{`table f 1 0`, never}, {openLine, closed}, {`restore`, closed},
		{`arm 0`, always}, {`crash`, always}, {`files`, always}, {`flip "none" 0`, always},
		{`close`, open}, {`session`, open}, {`end 1 1`, open}, {`tick 1`, open}, {`advance 0`, open}, {`mutate 0 0 "r" put f "q" 0 ""`, open}, {`ask 0 0 "" "" 1 1 0`, open}, {`get "" "" 1 1 0`, open},
		{`flush`, open}, {`compact major`, open}, {`compact minor`, open}, {`step 1`, open}, {`finish`, open}, {`abort`, open}, {`runs`, open}, {`dump 0`, open}, {`stat`, open}, {`digest`, open}, {`verify 1`, open}, {`backup`, open},
	} {
		for stage, before := range map[string][]string{never: nil, closed: {"table f 2 0"}, open: {"table f 2 0", openLine}} {
			x := begin(t, 1<<20)
			for _, line := range before {
				do(t, x, "%s", line)
			}
			got := x.Do(c.line)
			if (got == "error 203") != (c.stage != always && c.stage != stage) {
				t.Errorf("stage %s: %q answers %q", stage, c.line, got)
			}
		}
	}
}

// 20.4: the form comes ahead of the stage, that ahead of a family's being none, and that ahead of what a command refuses itself.
func TestOrderOfErrors(t *testing.T) {
	x := begin(t, 1<<20)
	play(t, x,
		turn{`table f`, "error 200"}, turn{`table f 99 0`, "error 28"}, turn{`table f 1 0 , g 1 -1`, "error 28"}, turn{"table x" + strings.Repeat("0", 32) + " 1 0", "error 28"}, turn{"table a 1 0 , b 1 0 , c 1 0 , d 1 0 , e 1 0 , f 1 0 , g 1 0 , h 1 0 , i 1 0", "error 28"},
		turn{`mutate 0 0 "r" put zz "q" 5`, "error 200"}, turn{`mutate 0 0 "r" put zz "q" 5 "x"`, "error 203"}, turn{`get "" "" 0 0 0 fam zz`, "error 203"}, turn{`step x`, "error 200"}, turn{`step 1`, "error 203"},
		turn{`open 1 1 1`, "error 200"}, turn{`open 1 1 1 1`, "error 203"},
		turn{`table f 2 0`, "ok"}, turn{`table f 99 0`, "error 203"}, turn{`table f 99`, "error 200"},
		turn{`mutate 0 0 "r" put zz "q" 5 "x"`, "error 203"}, turn{`open 1 1 1 1`, "error 111"}, turn{`stat`, "error 203"},
		turn{openLine, "ok 0 1 0"}, turn{`open 1 1 1 1`, "error 203"},
		turn{`mutate -1 -1 "" if there zz "" put f "" -1 ""`, "error 21"}, turn{`mutate -1 -1 "" if there f "" put zz "" -1 ""`, "error 21"}, turn{`mutate -1 -1 "" put f "" -1 "" fam zz 1`, "error 21"},
		turn{`mutate -1 -1 "" put f "" -1 ""`, "error 142"}, turn{`mutate 1 0 "" put f "" -1 ""`, "error 143"}, turn{`mutate 0 0 "" put f "" -1 ""`, "error 20"}, turn{`mutate 0 0 "r" put f "" -1 ""`, "error 145"},
		turn{`get "" "" 0 0 0 fam zz`, "error 21"}, turn{`get "" "" 0 0 0 fam f , zz`, "error 21"}, turn{`get "" "" 0 0 0 fam f`, "error 130"}, turn{`get "" "" 1 1 0 fam f , f`, "error 130"}, turn{`get "" "" 1 1 0 where "zz"`, "error 131"}, turn{`get "" "" 1 1 0 token "zz"`, "error 132"},
		turn{`ask -1 -1 "" "" 0 0 0 fam zz`, "error 21"}, turn{`ask -1 -1 "" "" 0 0 0`, "error 142"}, turn{`ask 7 7 "" "" 0 0 0`, "error 130"},
		turn{`tick 0`, "error 148"}, turn{`advance -1`, "error 148"}, turn{`end 0 0`, "error 142"}, turn{`verify 0`, "error 1"}, turn{`verify 17`, "error 1"}, turn{`dump 1`, "error 114"}, turn{`dump -1`, "error 114"},
		// None of these took an index, since none came to the machine; these do.
		turn{`stat`, "ok 0 0 1 0 0 0 0 0 0"},
		turn{`ask 7 7 "" "" 1 1 0`, "error 152"}, turn{`end 7 7`, "error 152"}, turn{`advance 1`, "error 156"}, turn{`tick 1099511627776`, "error 158"}, turn{`mutate 0 0 "r" if there f "q" put f "q" 0 ""`, "ok no 0"},
		turn{`stat`, "ok 5 0 1 0 0 0 0 0 0"},
	)
}

// 20.4: a line may be long, but not too long, whatever stands in it.
func TestLongLines(t *testing.T) {
	x := opened(t)
	for _, c := range []struct {
		begin, fill, want string
	}{{"stat ", " ", "ok 0 0 1 0 0 0 0 0 0"}, {"#", "x", ""}, {"", "\t", ""}, {"", "x", "error 200"}, {`flip "`, `"`, "error 200"}, {"crash ", "1 ", "ok 0"}} {
		line := c.begin + strings.Repeat(c.fill, api.MaxScript+1)
		play(t, x, turn{line[:api.MaxScript], c.want}, turn{line[:api.MaxScript+1], "error 201"})
	}
	play(t, x, turn{"stat", "error 203"})
}

// 20.3, 20.4: every byte can be said in a literal, in each way in which it may stand there, and is told in one.
func TestLiterals(t *testing.T) {
	x := opened(t)
	var all []byte
	for c := range 256 {
		one := string([]byte{byte(c)})
		spellings := []string{fmt.Sprintf(`"\x%02x"`, c)}
		switch {
		case c == '"' || c == '\\':
			spellings = append(spellings, `"\`+one+`"`)
		case c >= 0x20:
			spellings = append(spellings, `"`+one+`"`)
		}
		for _, s := range spellings {
			play(t, x, turn{fmt.Sprintf(`mutate 0 0 %[1]s put f %[1]s 0 %[1]s`, s), "ok yes 0"})
			got := do(t, x, `get %[1]s "" 1 1 0 prefix %[1]s`, s)
			if want := fmt.Sprintf("%[1]s{f %[1]s 1 %[1]s} more ", told([]byte{byte(c)})); !strings.HasPrefix(got, want) {
				t.Errorf("%s: %s", s, got)
			}
		}
		all = append(all, byte(c))
	}
	for _, c := range []struct{ b, want string }{{"\x00", `\x00`}, {"\t", `\x09`}, {"\n", `\x0a`}, {"\x1f", `\x1f`}, {" ", " "}, {"!", "!"}, {`"`, `\"`}, {"#", "#"}, {"'", "'"}, {",", ","}, {`\`, `\\`}, {"~", "~"}, {"\x7f", `\x7f`}, {"\x80", `\x80`}, {"ä", `\xc3\xa4`}, {"\xff", `\xff`}} {
		if got := told([]byte(c.b)); got != `"`+c.want+`"` {
			t.Errorf("%q: %s", c.b, got)
		}
	}
	r := rand.New(rand.NewSource(203))
	for range 50 {
		play(t, x, turn{fmt.Sprintf(`mutate 0 0 "all" put g "q" 0 %s`, spelt(r, all)), "ok yes 0"}, turn{`get "all" "alm" 1 9 0`, "ok \"all\"{g \"q\" 1 " + told(all) + "} done"})
	}
}

// 20.3: a number is any int.
func TestNumbers(t *testing.T) {
	x := opened(t)
	play(t, x,
		turn{`mutate 0 0 "r" add f "n" 9223372036854775807`, "ok yes 9223372036854775807"},
		turn{`mutate 0 0 "r" add f "n" -9223372036854775807`, "ok yes 0"},
		turn{`mutate 0 0 "r" add f "n" -9223372036854775808`, "error 157"},
		turn{`mutate 0 0 "r" add f "n" 0`, "ok yes 0"},
		turn{`mutate 0 0 "r" put f "t" 1099511627776 ""`, "ok yes 0"},
		turn{`mutate 0 0 "r" put f "t" 1099511627777 ""`, "error 145"},
		turn{`get "" "" 1 9 1099511627776 prefix "t"`, `ok "r"{f "t" 1099511627776 ""} done`},
		turn{`dump -9223372036854775808`, "error 114"}, turn{`step 9223372036854775807`, "error 122"}, turn{`arm -9223372036854775808`, "ok"},
	)
}

// 20.4: the six lines that are commands, and what is told of their replies.
func TestCommands(t *testing.T) {
	x := opened(t)
	play(t, x,
		turn{"session", "ok 1"}, turn{"session", "ok 2"}, turn{"tick 4", "ok 5"}, turn{"advance 3", "ok 3"}, turn{"advance 2", "error 156"},
		turn{`mutate 1 1 "r" put f "q" 0 "x"`, "ok yes 0"},
		turn{`mutate 1 2 "r" if there f "q" if same f "q" "x" if other f "q" "y" if below f "q" "y" if above f "q" "w" if absent f "p" add f "n" 2 add f "n" 3`, "ok yes 5"},
		turn{`mutate 1 2 "r" add f "n" 2`, "ok yes 5"}, turn{`mutate 1 4 "r" add f "n" 2`, "error 153"},
		turn{`mutate 0 0 "r" if there f "p" add f "n" 1`, "ok no 0"}, turn{`mutate 0 0 "r" if absent f "q" add f "n" 1`, "ok no 0"}, turn{`mutate 0 0 "r" if same f "q" "y" add f "n" 1`, "ok no 0"}, turn{`mutate 0 0 "r" if other f "q" "x" add f "n" 1`, "ok no 0"}, turn{`mutate 0 0 "r" if below f "q" "x" add f "n" 1`, "ok no 0"}, turn{`mutate 0 0 "r" if above f "q" "x" add f "n" 1`, "ok no 0"},
		turn{`mutate 0 0 "r" put f "q" 3 "late"`, "error 155"}, turn{`mutate 0 0 "r" add f "q" 1`, "error 157"},
		turn{`mutate 0 0 "r" put f "q" 6 "y" put g "a" 7 "" put g "b" 7 "b" put f "c" 9 "c"`, "ok yes 0"},
		turn{`ask 1 3 "" "" 2 9 9`, `ok "r"{f "c" 9 "c", f "n" 5 "\x00\x00\x00\x00\x00\x00\x00\x05", f "q" 6 "y", f "q" 5 "x", g "a" 7 "", g "b" 7 "b"} done`},
		turn{`mutate 0 0 "r" cell f "q" 6 col g "a" 7 fam f 4`, "ok yes 0"},
		turn{`ask 1 3 "" "" 2 9 9 fam f prefix "q"`, `ok "r"{f "q" 5 "x"} done`}, turn{`ask 0 0 "" "" 2 9 9 fam g`, `ok "r"{g "b" 7 "b"} done`},
		turn{`mutate 0 0 "r" fam g 8 fam f 8`, "ok yes 0"}, turn{`ask 0 0 "" "" 2 9 9`, `ok "r"{f "c" 9 "c"} done`}, turn{`ask 0 0 "s" "" 2 9 9`, `ok done`},
		// A serial that was done is answered as it was, whatever asks.
		turn{`mutate 2 1 "r" if absent f "c" fam f 9`, "ok no 0"}, turn{`ask 2 1 "" "" 1 9 0`, `ok more ""`}, turn{`end 2 1`, "ok"}, turn{`mutate 2 2 "r" fam f 9`, "ok yes 0"}, turn{`end 2 3`, "ok"}, turn{`end 2 3`, "error 152"}, turn{`mutate 2 4 "r" fam f 9`, "error 152"},
		turn{"tick 63", "ok 68"}, turn{"stat", "ok 33 0 68 3 1 13 368 0 0"},
		turn{"tick 1", "ok 69"}, turn{`mutate 1 4 "r" fam f 9`, "error 152"},
	)
}

// 20.4: no more sessions than there may be.
func TestSessions(t *testing.T) {
	x := opened(t)
	for i := range api.MaxSessions {
		play(t, x, turn{"session", fmt.Sprint("ok ", 1+i)})
	}
	play(t, x, turn{"session", "error 154"}, turn{"end 5 1", "ok"}, turn{"session", "ok 19"})
}

// 20.4: as many conditions and ops as there may be, and what is too much is order's to say.
func TestManyConditionsAndOps(t *testing.T) {
	x := opened(t)
	conds, ops := strings.Repeat(` if absent f "q"`, 8), strings.Repeat(` put g "q" 0 "v"`, 16)
	play(t, x,
		turn{`mutate 0 0 "r"` + conds + ops, "ok yes 0"},
		turn{`mutate 0 0 "r" if absent f "q"` + conds + ops, "error 146"},
		turn{`mutate 0 0 "r"` + conds + ops + ` put g "q" 0 "v"`, "error 144"},
		turn{`mutate 0 0 "` + strings.Repeat("r", 256) + `"` + ops, "ok yes 0"},
		turn{`mutate 0 0 "` + strings.Repeat("r", 257) + `"` + ops, "error 20"},
		turn{`mutate 0 0 "r" put g "q" 0 "` + strings.Repeat("v", 4096) + `"`, "ok yes 0"},
		turn{`mutate 0 0 "r" put g "q" 0 "` + strings.Repeat("v", 4097) + `"`, "error 145"},
	)
}

// 20.4: a question's parts, each by its word; pages and their tokens.
func TestQuestions(t *testing.T) {
	x := begin(t, 1<<20)
	play(t, x, turn{"table f 3 0 , back 3 0 , h 3 0", "ok"}, turn{openLine, "ok 0 1 0"})
	for _, row := range []string{"a", "b", "c", "d"} {
		do(t, x, `mutate 0 0 "%s" put f "p" 1 "1" put f "q" 2 "2" put f "q" 3 "3" put back "p" 4 "4" put h "pp" 5 "5"`, row)
	}
	whole := func(row string) string {
		return `"` + row + `"{f "p" 1 "1", f "q" 3 "3", f "q" 2 "2", back "p" 4 "4", h "pp" 5 "5"}`
	}
	play(t, x,
		turn{`get "" "" 2 9 9`, "ok " + whole("a") + " " + whole("b") + " " + whole("c") + " " + whole("d") + " done"},
		turn{`get "b" "d" 2 9 9`, "ok " + whole("b") + " " + whole("c") + " done"},
		turn{`get "b" "d" 2 9 9 back`, "ok " + whole("c") + " " + whole("b") + " done"},
		turn{`get "b" "c" 1 9 9`, `ok "b"{f "p" 1 "1", f "q" 3 "3", back "p" 4 "4", h "pp" 5 "5"} done`},
		turn{`get "b" "c" 1 9 2`, `ok "b"{f "p" 1 "1", f "q" 2 "2"} done`},
		turn{`get "b" "c" 1 9 0`, `ok "b"{f "p" 1 "1"} done`},
		turn{`get "b" "c" 1 9 9 fam back`, `ok "b"{back "p" 4 "4"} done`},
		turn{`get "b" "c" 1 9 9 back fam back , h`, `ok "b"{back "p" 4 "4", h "pp" 5 "5"} done`},
		turn{`get "b" "c" 1 9 9 fam h , back`, `error 130`},
		turn{`get "b" "c" 1 9 9 prefix "pp"`, `ok "b"{h "pp" 5 "5"} done`},
		turn{`get "b" "c" 1 9 9 fam f , h prefix "p" where "value = \"5\" or ts = 1"`, `ok "b"{f "p" 1 "1", h "pp" 5 "5"} done`},
		turn{`get "b" "c" 1 9 9 prefix "" where "" token ""`, `ok "b"{f "p" 1 "1", f "q" 3 "3", back "p" 4 "4", h "pp" 5 "5"} done`},
		turn{`get "b" "c" 1 9 9 where "fam = back and value = \"\\34\""`, `ok "b"{back "p" 4 "4"} done`},
		turn{`get "b" "c" 1 9 9 where "fam = none"`, `error 131`},
		turn{`get "e" "" 1 9 9`, `ok done`},
	)
	var rows []string
	for question, token := `get "" "" 2 1 9 back`, ""; ; {
		got := do(t, x, "%s%s", question, token)
		page, next, more := strings.Cut(got, " more ")
		if !more {
			if got != "done" {
				t.Errorf("the last page: %s", got)
			}
			break
		}
		rows = append(rows, page)
		token = " token " + next
		if len(rows) == 2 {
			// Pages go on where they ended, whatever comes between.
			do(t, x, "flush")
			put(t, x, "e", "new")
		}
	}
	if got, want := strings.Join(rows, " "), whole("d")+" "+whole("c")+" "+whole("b")+" "+whole("a"); got != want {
		t.Errorf("pages %s", got)
	}
}

// 20.4: table, open and close; what is not flushed is gone with close.
func TestOpenAndClose(t *testing.T) {
	x := begin(t, 1<<20)
	play(t, x,
		turn{"table f 1 0 , g 16 1099511627776", "ok"}, turn{"close", "error 203"},
		turn{"open 63 0 1 1", "error 111"}, turn{"open 64 -1 1 1", "error 111"}, turn{"open 64 0 0 1", "error 111"}, turn{"open 64 0 1 0", "error 111"}, turn{"open 65537 0 1 1", "error 111"}, turn{"open 64 21 1 1", "error 111"}, turn{"open 64 0 4194305 1", "error 111"}, turn{"open 64 0 1 65", "error 111"},
		turn{"close", "error 203"}, turn{"open 64 0 1 1", "ok 0 1 0"}, turn{"open 64 0 1 1", "error 203"}, turn{"close", "ok"}, turn{"close", "error 203"},
		turn{"open 65536 20 4194304 64", "ok 0 1 0"}, turn{"session", "ok 1"}, turn{"tick 6", "ok 7"}, turn{"advance 2", "ok 2"}, turn{"flush", "ok"}, turn{"tick 1", "ok 8"},
		turn{"close", "ok"}, turn{openLine, "ok 3 7 2"}, turn{"stat", "ok 3 3 7 2 1 0 0 0 0"},
	)
	if got := x.Do("files"); got != fmt.Sprintf("ok k.MANIFEST:%d", len(fileOf(t, x, "k.MANIFEST").Data)) {
		t.Error(got)
	}
}

// 20.4: stat, runs, dump, files: what they tell of a table that has some of each.
func TestTelling(t *testing.T) {
	x := opened(t)
	play(t, x,
		turn{"runs", "ok"}, turn{"dump 0", "ok"}, turn{"files", "ok"}, turn{"stat", "ok 0 0 1 0 0 0 0 0 0"}, turn{"verify 16", "ok"}, turn{"digest", "ok 0"},
		turn{"session", "ok 1"}, turn{"tick 3", "ok 4"}, turn{`mutate 0 0 "\x00" put f "\"" 2 "\xff" cell g "" 3`, "ok yes 0"}, turn{"advance 1", "ok 1"},
		turn{"dump 0", `ok 1 "\x00" f "\"" 2 48 "\xff", 3 "\x00" g "" 3 49 ""`}, turn{"flush", "ok"}, turn{"dump 0", "ok"},
		turn{`mutate 0 0 "r" fam g 5 col f "q" 6`, "ok yes 0"}, turn{"dump 0", `ok 4 "r" f "q" 6 81 "", 5 "r" g "" 5 80 ""`},
		turn{"dump 1", `ok 1 "\x00" f "\"" 2 48 "\xff", 3 "\x00" g "" 3 49 ""`}, turn{"dump 2", "error 114"},
	)
	run, manifest := len(fileOf(t, x, "k.RUN-1").Data), len(fileOf(t, x, "k.MANIFEST").Data)
	play(t, x,
		turn{"runs", fmt.Sprintf("ok 1:2:4:1:4:%d", run)}, turn{"files", fmt.Sprintf("ok k.MANIFEST:%d k.RUN-1:%d", manifest, run)},
		turn{"stat", "ok 5 4 4 1 1 2 " + strings.Fields(x.Do("stat"))[7] + " 1 0"},
	)
	if n := strings.Fields(x.Do("stat"))[7]; n == "0" {
		t.Error("a memtable without a byte")
	}
	do(t, x, "flush")
	second := len(fileOf(t, x, "k.RUN-2").Data)
	play(t, x, turn{"runs", fmt.Sprintf("ok 2:2:5:1:4:%d 1:2:4:1:4:%d", second, run)}, turn{"stat", "ok 5 5 4 1 1 0 0 2 0"})
}
