package shell_test

import "testing"

// The chapter's examples, one behind the other.
func TestExamples(t *testing.T) {
	play(t, begin(t, 1<<20),
		turn{`table f 2 0`, `ok`},
		turn{`table f 2 0`, `error 203`},
		turn{`get "" "" 1 9 0`, `error 203`},
		turn{`open 64 10 4096 8`, `ok 0 1 0`},
		turn{`mutate 0 0 "r" put f "q" 5 "x"`, `ok yes 0`},
		turn{`mutate 0 0 "r" if absent f "q" put f "q" 6 "y"`, `ok no 0`},
		turn{`mutate 0 0 "r" add f "n" 3`, `ok yes 3`},
		turn{`mutate 0 0 "r" put g "q" 5 "x"`, `error 21`},
		turn{`get "" "" 1 9 0`, `ok "r"{f "n" 1 "\x00\x00\x00\x00\x00\x00\x00\x03"} done`},
		turn{`get "" "" 1 9 9`, `ok "r"{f "n" 1 "\x00\x00\x00\x00\x00\x00\x00\x03", f "q" 5 "x"} done`},
		turn{`advance 1`, `error 156`},
		turn{`step 1`, `error 122`},
		turn{`compact minor`, `ok none`},
		turn{`get "" "" 1 9`, `error 200`},
		turn{`# a remark`, ``},
	)
}
