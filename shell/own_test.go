package shell_test

import (
	"fmt"
	"math/rand"
	"regexp"
	"runtime"
	"strings"
	"testing"
	"time"
	"unsafe"

	"strata/shell"
)

// 20.6: what Files tells is new memory: whoever writes into it changes nothing.
func TestFilesAreNewMemory(t *testing.T) {
	x := threeRuns(t)
	before := filesText(x.Files())
	l := x.Files()
	for _, f := range l {
		clear(f.Data[:cap(f.Data)])
	}
	clear(l[:cap(l)])
	if got := filesText(x.Files()); got != before {
		t.Error("the disk has changed")
	}
	play(t, x, turn{"verify 1", "ok"})
}

// played plays a line whose bytes are written over behind it; so is what would be kept of them.
func played(x *shell.Shell, line string) string {
	if line == "" {
		return x.Do(line)
	}
	b := []byte(line)
	answer := x.Do(unsafe.String(&b[0], len(b)))
	told := strings.Clone(answer)
	for i := range b {
		b[i] = '~'
	}
	if answer != told {
		return "the answer is a piece of the line"
	}
	return answer
}

// 20.6: nothing of a line is kept, nor is an answer a piece of it.
func TestLinesAreNotKept(t *testing.T) {
	manySeeds(t, 32, func(t *testing.T, seed int, _ map[string]int) {
		s := newStory(t, 2000+seed, 1<<20)
		for range 120 {
			l := s.draw()
			want := l.want()
			if got := played(s.x, l.text); got != want {
				t.Fatalf("seed %d: %s answers %s, want %s", seed, l.text, got, want)
			}
		}
	})
}

// 20.6: two shells know nothing of one another, though their lines come in turn.
func TestTwoShells(t *testing.T) {
	for seed := range 20 {
		a, b := newStory(t, 3000+seed, 1<<20), newStory(t, 4000+seed, 9000)
		r := rand.New(rand.NewSource(int64(seed)))
		for range 200 {
			s := []*story{a, b}[r.Intn(2)]
			l := s.draw()
			if want, got := l.want(), s.x.Do(l.text); got != want {
				t.Fatalf("seed %d: %s answers %s, want %s", seed, l.text, got, want)
			}
		}
	}
}

// 20.6: two shells may be used side by side, and whatever goroutines there were have ended.
func TestSideBySide(t *testing.T) {
	before := runtime.NumGoroutine()
	script := "table f 2 0\n" + openLine + "\n"
	for i := range 40 {
		script += fmt.Sprintf("mutate 0 0 \"%d\" put f \"q\" 0 \"v\"\nflush\nverify %d\ncompact minor\nfinish\ndigest\n", i, 1+i%16)
	}
	want, err := shell.Run(1<<20, script)
	mustErr(t, "Run", err, 0)
	answers := make(chan string)
	for range 8 {
		go func() {
			got, _ := shell.Run(1<<20, script)
			answers <- got
		}()
	}
	for range 8 {
		if got := <-answers; got != want {
			t.Error("another answer")
		}
	}
	for i := 0; runtime.NumGoroutine() > before; i++ {
		if i > 100 {
			t.Fatalf("%d goroutines, before %d", runtime.NumGoroutine(), before)
		}
		time.Sleep(10 * time.Millisecond)
	}
}

// answerForm is that of all answers.
var answerForm = regexp.MustCompile(`^(?:|ok(?: [ -~]+)?|error [1-9][0-9]*)$`)

func mustAnswer(t *testing.T, line, answer string) {
	t.Helper()
	if !answerForm.MatchString(answer) {
		t.Fatalf("%q answers %q", line, answer)
	}
}

// 20.6: whatever bytes come as lines, each is answered by one line, and nothing panics.
func TestWhateverComes(t *testing.T) {
	manySeeds(t, 64, func(t *testing.T, seed int, _ map[string]int) {
		s := newStory(t, 5000+seed, 1<<16)
		for range 400 {
			l := s.draw()
			switch s.r.Intn(4) {
			case 0:
				l.text = changed(s.r, l.text)
			case 1:
				b := make([]byte, s.r.Intn(40))
				for i := range b {
					b[i] = byte(s.r.Intn(256))
				}
				l.text = pick(s.r, "", l.text+" ", "flip ", "crash ", `get "`) + string(b)
			default:
				l.want()
			}
			mustAnswer(t, l.text, s.x.Do(l.text))
		}
	})
}
