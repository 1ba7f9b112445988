package shell_test

import (
	"fmt"
	"math/rand"
	"regexp"
	"strconv"
	"strings"
	"testing"

	"strata/api"
	"strata/retain"
	"strata/shell"
)

// history is a shell that is never flushed, and what it was told, and answered, at each index.
type history struct {
	r       *rand.Rand
	x       *shell.Shell
	schema  api.Schema
	table   string
	lines   []string // lines[i] took the index i + 1
	answers []string
}

func drawHistory(t *testing.T, r *rand.Rand) *history {
	h := &history{r: r, x: begin(t, 1<<26), table: "table"}
	for i := range 1 + r.Intn(3) {
		f := api.Family{Name: string(rune('f' + i)), Max: 1 + r.Intn(3), TTL: []int{0, 0, 12, 40}[r.Intn(4)]}
		h.schema.Fams = append(h.schema.Fams, f)
		h.table += fmt.Sprintf("%s %s %d %d", []string{"", " ,"}[min(i, 1)], f.Name, f.Max, f.TTL)
	}
	play(t, h.x, turn{h.table, "ok"}, turn{openLine, "ok 0 1 0"})
	return h
}

// stat is a number of those that stat tells.
func stat(t *testing.T, x *shell.Shell, i int) int {
	t.Helper()
	n, err := strconv.Atoi(strings.Fields(do(t, x, "stat"))[i])
	if err != nil {
		t.Fatal(err)
	}
	return n
}

const statApplied, statFlushed, statClock, statLow, statSessions, statRuns = 0, 1, 2, 3, 4, 7

// grow does one more command, in the history alone.
func (h *history) grow(t *testing.T) {
	clock, low := stat(t, h.x, statClock), stat(t, h.x, statLow)
	line := h.drawLine(clock, low)
	answer := h.x.Do(line)
	if stat(t, h.x, statApplied) > len(h.lines) {
		h.lines, h.answers = append(h.lines, line), append(h.answers, answer)
	}
}

func (h *history) drawLine(clock, low int) string {
	r := h.r
	client, serial := 0, 0
	if r.Intn(3) == 0 {
		// Sessions are opened at low indices, if at all.
		client, serial = 1+r.Intn(6), 1+r.Intn(4)
	}
	switch n := r.Intn(20); {
	case n < 1:
		return "session"
	case n < 3:
		return fmt.Sprint("tick ", []int{1, 1, 2, 5, 64}[r.Intn(5)])
	case n < 4:
		return fmt.Sprint("advance ", low+r.Intn(clock-low+1))
	case n < 5:
		return fmt.Sprintf("ask %d %d %s", client, serial, h.question(clock))
	case n < 6 && r.Intn(4) == 0:
		return fmt.Sprintf("end %d %d", client, serial)
	}
	line := fmt.Sprintf(`mutate %d %d "%c"`, client, serial, 'a'+r.Intn(4))
	column := func() string {
		return fmt.Sprintf(`%s "%c"`, h.schema.Fams[r.Intn(len(h.schema.Fams))].Name, 'p'+r.Intn(3))
	}
	if r.Intn(4) == 0 {
		line += " if " + pick(r, "there ", "absent ") + column()
	}
	for range 1 + r.Intn(3) {
		ts := max(0, []int{0, low, low + 1, low + 2, clock - 1, clock, clock + 1, clock + 5}[r.Intn(8)])
		switch n := r.Intn(12); {
		case n < 6:
			line += fmt.Sprintf(` put %s %d "%d"`, column(), ts, r.Intn(100))
		case n < 8:
			line += fmt.Sprintf(` cell %s %d`, column(), ts)
		case n < 9:
			line += fmt.Sprintf(` col %s %d`, column(), ts)
		case n < 10:
			line += fmt.Sprintf(` fam %s %d`, strings.Fields(column())[0], ts)
		default:
			line += fmt.Sprintf(` add %s %d`, column(), r.Intn(5))
		}
	}
	return line
}

func (h *history) question(clock int) string {
	r := h.r
	q := fmt.Sprintf(`"%s" "%s" %d %d %d`, pick(r, "", "", "a", "b"), pick(r, "", "", "c", "d"), 1+r.Intn(3), []int{1, 2, 1000}[r.Intn(3)], []int{0, 1 + r.Intn(clock), clock + 3, 1 << 40}[r.Intn(4)])
	q += pick(r, "", "", " back") + pick(r, "", "", " fam "+h.schema.Fams[0].Name) + pick(r, "", "", ` prefix "q"`)
	return q + pick(r, "", "", ` where "not ts = 1"`)
}

var dumped = regexp.MustCompile(`(\d) ("(?:[^"\\]|\\.)*") (\w+) ("(?:[^"\\]|\\.)*") (\d+) (\d+) ("(?:[^"\\]|\\.)*")(?:, |$)`)

// entries are those that a dump told.
func (h *history) entries(t *testing.T, dump string) []api.Entry {
	t.Helper()
	var out []api.Entry
	rest := dump
	for rest != "" {
		m := dumped.FindStringSubmatch(rest)
		if m == nil || !strings.HasPrefix(rest, m[0]) {
			t.Fatalf("a dump of %q", rest)
		}
		rest = rest[len(m[0]):]
		e := api.Entry{Row: bytesOf(t, m[2]), Qual: bytesOf(t, m[4]), Value: bytesOf(t, m[7])}
		for e.Fam = 0; h.schema.Fams[e.Fam].Name != m[3]; {
			e.Fam++
		}
		e.Kind, _ = strconv.Atoi(m[1])
		e.Ts, _ = strconv.Atoi(m[5])
		e.Seq, _ = strconv.Atoi(m[6])
		out = append(out, e)
	}
	return out
}

// bytesOf: an answer's literals are literals of Go, too.
func bytesOf(t *testing.T, literal string) []byte {
	t.Helper()
	s, err := strconv.Unquote(literal)
	if err != nil {
		t.Fatalf("%s: %v", literal, err)
	}
	return []byte(s)
}

// checkRead holds what get answers against chapter 3, read out of all entries that ever came.
func (h *history) checkRead(t *testing.T, x *shell.Shell, all []api.Entry) {
	t.Helper()
	clock := stat(t, x, statClock)
	n, time := 1+h.r.Intn(3), 1+h.r.Intn(clock+9)
	l, err := retain.Read(h.schema, clock, time, n, all...)
	mustErr(t, "Read", err, api.OK)
	want := "ok"
	for i, e := range l {
		switch {
		case i == 0 || string(l[i-1].Row) != string(e.Row):
			want += " " + told(e.Row) + "{"
		default:
			want += ", "
		}
		want += fmt.Sprintf("%s %s %d %s", h.schema.Fams[e.Fam].Name, told(e.Qual), e.Ts, told(e.Value))
		if i == len(l)-1 || string(l[i+1].Row) != string(e.Row) {
			want += "}"
		}
	}
	play(t, x, turn{fmt.Sprintf(`get "" "" %d 1000 %d`, n, time), want + " done"})
}

// keeper is a shell that goes through a history with flushes, compactions, crashes and reopenings.
type keeper struct {
	*history
	y     *shell.Shell
	count map[string]int
}

// catchUp does the commands of the history that are not applied here: they are answered as the first time.
func (k *keeper) catchUp(t *testing.T, upTo int) {
	t.Helper()
	for i := stat(t, k.y, statApplied); i < upTo; i++ {
		if got := k.y.Do(k.lines[i]); got != k.answers[i] {
			t.Fatalf("index %d: %s answers %s, at first %s", i+1, k.lines[i], got, k.answers[i])
		}
	}
}

func (k *keeper) upkeep(t *testing.T) {
	t.Helper()
	line := pick(k.r, "flush", "flush", "flush", "compact minor", "compact minor", "compact major", "step 1", "step 3", "step 100", "finish", "finish", "finish", "finish", "abort", "backup", "verify 2", "arm", "crash", "close")
	switch line {
	case "arm":
		k.y.Do(fmt.Sprint("arm ", 1+k.r.Intn(12)))
		return
	case "crash":
		do(t, k.y, "crash %d %d", k.r.Intn(99), k.r.Intn(9999))
		k.reopen(t)
	case "close":
		if k.down() {
			// What is down can't be opened again but behind a crash.
			do(t, k.y, "crash")
		} else {
			do(t, k.y, "close")
		}
		k.reopen(t)
	default:
		answer := k.y.Do(line)
		switch answer {
		case "error 3":
			if k.r.Intn(2) == 0 {
				do(t, k.y, "crash %d", k.r.Intn(2)*99999)
				k.reopen(t)
			}
		case "error 122", "error 182":
		default:
			if !strings.HasPrefix(answer, "ok") {
				t.Fatalf("%s answers %s", line, answer)
			}
		}
		line += " " + strings.Fields(answer)[0]
	}
	k.count[line]++
}

func (k *keeper) down() bool { return k.y.Do("digest") == "error 3" }

func (k *keeper) reopen(t *testing.T) {
	t.Helper()
	do(t, k.y, "open %d %d %d %d", 64+k.r.Intn(2)*1000, k.r.Intn(21), 1+k.r.Intn(999), 1+k.r.Intn(64))
}

// up sees to it that the disk is up, and all commands applied.
func (k *keeper) up(t *testing.T) {
	t.Helper()
	if k.down() {
		do(t, k.y, "crash")
		k.reopen(t)
	}
	k.catchUp(t, len(k.lines))
}

// 20.7, W1: whatever flushes, compactions, crashes and reopenings there are, what is read is as if none had been; and as chapter 3 says of all that ever came.
// W5: a major compaction behind a flush leaves just what chapter 3's Squash does, and nothing else is stored.
func TestAsIfNoneHadBeen(t *testing.T) {
	total := manySeeds(t, 160, func(t *testing.T, seed int, count map[string]int) {
		h := drawHistory(t, rand.New(rand.NewSource(int64(seed))))
		k := &keeper{h, begin(t, 1<<22), count}
		play(t, k.y, turn{h.table, "ok"})
		k.reopen(t)
		for range 25 {
			for range 1 + h.r.Intn(8) {
				h.grow(t)
				if h.r.Intn(3) > 0 && !k.down() {
					k.catchUp(t, len(h.lines))
				}
				if h.r.Intn(2) == 0 {
					k.upkeep(t)
				}
			}
			k.up(t)
			k.compare(t)
			if h.r.Intn(4) == 0 {
				k.collect(t)
			}
		}
	})
	t.Log(total)
	atLeast(t, total, map[string]int{"flush ok": 500, "flush error": 50, "compact minor ok": 200, "finish ok": 100, "crash": 200, "close": 200, "collected": 300, "dropped": 300, "marks": 100})
}

func (k *keeper) compare(t *testing.T) {
	t.Helper()
	for _, i := range []int{statApplied, statClock, statLow, statSessions} {
		if a, b := stat(t, k.x, i), stat(t, k.y, i); a != b {
			t.Fatalf("stat %d: %d, and %d", i, a, b)
		}
	}
	play(t, k.y, turn{"digest", k.x.Do("digest")})
	for range 3 {
		line := "get " + k.question(stat(t, k.x, statClock))
		play(t, k.y, turn{line, k.x.Do(line)})
	}
	k.checkRead(t, k.y, k.entries(t, do(t, k.x, "dump 0")))
}

// collect does a major compaction right behind a flush.
func (k *keeper) collect(t *testing.T) {
	t.Helper()
	k.y.Do("arm 0")
	do(t, k.y, "flush")
	all := k.entries(t, do(t, k.x, "dump 0"))
	clock, low := stat(t, k.x, statClock), stat(t, k.x, statLow)
	left, err := retain.Squash(k.schema, clock, true, low, all...)
	mustErr(t, "Squash", err, api.OK)
	want := []string{"ok"}
	if do(t, k.y, "compact major") != "none" {
		do(t, k.y, "step 5")
		counts := strings.Fields(do(t, k.y, "finish"))
		if counts[1] != fmt.Sprint(len(left)) {
			t.Fatalf("%v: %d stay", counts, len(left))
		}
		if counts[0] != counts[1] {
			k.count["dropped"]++
		}
		if counts[6] != "0" {
			k.count["marks"]++
		}
	}
	k.count["collected"]++
	runs := nums(k.y)
	if len(runs) != min(1, len(left)) {
		t.Fatalf("runs %v, and %d entries stay", runs, len(left))
	}
	for _, num := range runs {
		play(t, k.y, turn{"dump " + num, dumpText(k.schema, left)})
		want = append(want, "k.RUN-"+num)
	}
	var files []string
	for _, f := range k.y.Files() {
		files = append(files, f.Name)
	}
	if got := strings.Join(files, " "); got != strings.Join(append([]string{"k.MANIFEST"}, want[1:]...), " ") {
		t.Fatalf("files: %s", got)
	}
	k.compare(t)
}
