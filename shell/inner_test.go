package shell

import (
	"bytes"
	"encoding/binary"
	"fmt"
	"hash/crc32"
	"math/rand"
	"reflect"
	"strings"
	"testing"

	"strata/api"
	"strata/run"
)

func start(t *testing.T, capacity int, lines ...string) *Shell {
	t.Helper()
	x, err := New(capacity)
	if err != api.OK {
		t.Fatalf("New: %d", err)
	}
	want(t, x, "ok", lines...)
	return x
}

// want plays lines that are all answered so, or so with more behind a blank.
func want(t *testing.T, x *Shell, answer string, lines ...string) {
	t.Helper()
	for _, line := range lines {
		if got := x.Do(line); got != answer && !strings.HasPrefix(got, answer+" ") {
			t.Fatalf("%q answers %q, want %q", line, got, answer)
		}
	}
}

const schemaLine, openLine = "table f 2 0 , g 3 40", "open 64 10 100000 8"

// filled is an open table with some runs, sessions with replies, and something in memory that is not flushed.
func filled(t *testing.T, seed int) *Shell {
	t.Helper()
	r := rand.New(rand.NewSource(int64(seed)))
	x := start(t, 1<<20, schemaLine, openLine, "session", "session")
	for range 1 + r.Intn(4) {
		for range 1 + r.Intn(20) {
			line := fmt.Sprintf(`mutate 0 0 "%c" put f "%c" %d "%d" put g "q" 0 "x"`, 'a'+r.Intn(9), 'p'+r.Intn(3), 50+r.Intn(9), r.Intn(999))
			switch r.Intn(9) {
			case 0:
				line = "tick 3"
			case 1:
				line = fmt.Sprintf(`mutate 0 0 "%c" col f "q" %d cell g "q" 55`, 'a'+r.Intn(9), 50+r.Intn(9))
			}
			want(t, x, "ok", line)
		}
		want(t, x, "ok", fmt.Sprintf("advance %d", x.tree.Low()+r.Intn(x.tree.Clock()-x.tree.Low())), "flush")
		if r.Intn(3) == 0 && x.Do("compact minor") != "ok none" {
			want(t, x, "ok", "finish")
		}
	}
	want(t, x, "ok", `mutate 1 1 "a" add f "n" 7`, "flush", `mutate 0 0 "zz" put f "q" 0 "lost" add g "n" 1`)
	return x
}

// 20.5: the bytes of a backup, told a second time.
func TestBackupBytes(t *testing.T) {
	for seed := range 20 {
		x := filled(t, seed)
		if len(x.backup) > 0 {
			t.Fatal("a backup ahead of all")
		}
		answer := x.Do("backup")
		image, err := x.tree.Image()
		if err != api.OK || len(image.Runs) == 0 || len(image.State) == 0 {
			t.Fatalf("%+v, %d", image, err)
		}
		if want := layOut(image); !bytes.Equal(x.backup, want) || answer != fmt.Sprintf("ok %d", len(want)) {
			t.Fatalf("%s: %x\nwant %x", answer, x.backup, want)
		}
		if got, is := readBackup(x.backup); !is || !reflect.DeepEqual(got, image) {
			t.Errorf("read: %v, %v\nwant %v", got, is, image)
		}
	}
}

// layOut: a frame, and the runs behind it.
func layOut(x api.Image) []byte {
	lengths := []uint64{uint64(len(x.Runs))}
	for _, run := range x.Runs {
		lengths = append(lengths, uint64(len(run)))
	}
	return layNumbers([]uint64{uint64(x.Index), uint64(x.Clock), uint64(x.Low)}, x.State, lengths, bytes.Join(x.Runs, nil))
}

func layNumbers(times []uint64, state []byte, lengths []uint64, runs []byte) []byte {
	var body []byte
	for _, n := range append(times, uint64(len(state))) {
		body = binary.AppendUvarint(body, n)
	}
	body = append(body, state...)
	for _, n := range lengths {
		body = binary.AppendUvarint(body, n)
	}
	return append(frame(body), runs...)
}

func frame(body []byte) []byte {
	table := crc32.MakeTable(crc32.Castagnoli)
	out := binary.BigEndian.AppendUint32(nil, uint32(len(body)))
	out = binary.LittleEndian.AppendUint32(out, crc32.Checksum(out, table))
	return binary.LittleEndian.AppendUint32(append(out, body...), crc32.Checksum(body, table))
}

// 20.5: a backup is read strictly; what is none is told by restore, which changes nothing then.
func TestReadBackup(t *testing.T) {
	times, long := []uint64{5, 4, 3}, make([]byte, api.MaxState+1)
	most := make([]uint64, 1+api.MaxRuns)
	most[0] = api.MaxRuns
	big := make([]byte, api.MaxRunBytes+1)
	good := [][]byte{
		layNumbers(times, nil, []uint64{0}, nil), layNumbers(times, []byte("state"), []uint64{2, 3, 1}, []byte("abcd")), layNumbers([]uint64{0, 0, 0}, nil, []uint64{0}, nil),
		layNumbers([]uint64{api.MaxIndex, api.MaxTime, api.MaxTime}, long[:api.MaxState], most, nil), layNumbers(times, nil, []uint64{1, api.MaxRunBytes}, big[:api.MaxRunBytes]),
	}
	bad := [][]byte{
		nil, {0}, frame(nil), frame([]byte{5, 4, 3}), frame([]byte{5, 4, 3, 0}), frame([]byte{5, 4, 3, 0, 1}), frame([]byte{5, 4, 3, 0, 0, 0}), frame([]byte{5, 4, 3, 0, 1, 0, 0}), frame([]byte{5, 4, 3, 9, 0}),
		frame([]byte{0x85, 0, 4, 3, 0, 0}), frame([]byte{5, 4, 3, 0x80, 0, 0}), frame([]byte{5, 4, 3, 0, 0x80, 0}), frame([]byte{5, 4, 3, 0, 1, 0x80, 0}),
		layNumbers([]uint64{api.MaxIndex + 1, 4, 3}, nil, []uint64{0}, nil), layNumbers([]uint64{5, api.MaxTime + 1, 3}, nil, []uint64{0}, nil), layNumbers([]uint64{5, 4, api.MaxTime + 1}, nil, []uint64{0}, nil),
		layNumbers([]uint64{1 << 63, 4, 3}, nil, []uint64{0}, nil), layNumbers([]uint64{5, 1<<64 - 1, 3}, nil, []uint64{0}, nil),
		layNumbers(times, long, []uint64{0}, nil), layNumbers(times, nil, append([]uint64{api.MaxRuns + 1, 0}, most[1:]...), nil), layNumbers(times, nil, []uint64{1 << 63}, nil),
		layNumbers(times, nil, []uint64{1, api.MaxRunBytes + 1}, big), layNumbers(times, nil, []uint64{1, 1 << 63}, []byte("abc")),
		layNumbers(times, nil, []uint64{2, 3, 1}, []byte("abc")), layNumbers(times, nil, []uint64{2, 3, 1}, []byte("abcde")), layNumbers(times, nil, []uint64{0}, []byte("a")), layNumbers(times, nil, []uint64{1, 1}, nil),
		append(frame(nil), good[0]...), append([]byte{0}, good[0]...), append(bytes.Clone(good[0]), 0), append(bytes.Clone(good[0]), good[0]...),
	}
	for n := range len(good[1]) {
		bad = append(bad, good[1][:n])
		for bit := range 8 {
			b := bytes.Clone(good[1])
			b[n] ^= 1 << bit
			// The runs' bytes are not looked at here.
			if n < len(b)-4 {
				bad = append(bad, b)
			}
		}
	}
	x := start(t, 1<<20, schemaLine)
	for i, b := range good {
		if y, is := readBackup(b); !is || !bytes.Equal(layOut(y), b) {
			t.Errorf("good %d is none", i)
		}
		x.backup = b
		if got := x.Do("restore"); got == "error 202" {
			t.Errorf("good %d: restore answers %s", i, got)
		}
	}
	before := x.Files()
	for i, b := range bad {
		if y, is := readBackup(b); is || !reflect.DeepEqual(y, api.Image{}) {
			t.Errorf("bad %d is one: %v", i, y)
		}
		x.backup = b
		want(t, x, "error 202", "restore")
	}
	if after := x.Files(); !reflect.DeepEqual(after, before) {
		t.Errorf("files: %v, before %v", after, before)
	}
}

// tellAll is all that lines tell of an open table, but for the runs' numbers.
func tellAll(x *Shell) string {
	out := x.Do("stat") + "\n" + x.Do("digest") + "\n" + x.Do(`get "" "" 3 1000 1000`) + "\n" + x.Do(`get "" "" 1 1000 54 back`) + "\n"
	for i, r := range strings.Fields(x.Do("runs"))[1:] {
		num, rest, _ := strings.Cut(r, ":")
		out += fmt.Sprintln(i, rest, x.Do("dump "+num))
	}
	return out
}

// W7: what was flushed last, backed up and restored on an empty disk, is the same table, with its sessions.
func TestRestoreOnAnEmptyDisk(t *testing.T) {
	for seed := range 20 {
		x := filled(t, seed)
		want(t, x, "ok", "backup", "close")
		first := x.Do(openLine)
		y := start(t, 1<<20, schemaLine)
		y.backup = x.backup
		kept := bytes.Clone(x.backup)
		if got := y.Do("restore"); got != "ok" {
			t.Fatalf("restore answers %s", got)
		}
		if y.tree != nil || y.machine != nil || y.stage() != notOpen {
			t.Error("it is open")
		}
		want(t, y, "error 110", "restore")
		if got := y.Do("open 4096 3 1 1"); got != first {
			t.Errorf("open answers %s, want %s", got, first)
		}
		if a, b := tellAll(x), tellAll(y); a != b {
			t.Errorf("seed %d: %s\nwant %s", seed, b, a)
		}
		for _, line := range []string{`mutate 1 1 "a" add f "n" 7`, `mutate 1 2 "a" add f "n" 1`, `mutate 1 1 "a" add f "n" 7`, `mutate 2 1 "b" fam f 99`, "tick 1", "digest", "stat", `get "" "" 3 1000 1000`, "flush", "verify 3", "digest"} {
			if a, b := x.Do(line), y.Do(line); a != b {
				t.Errorf("%s: %s, and %s", line, a, b)
			}
		}
		if !bytes.Equal(kept, y.backup) {
			t.Error("the backup has changed")
		}
	}
}

// 20.4: restore puts the image in the place of what is there, if it is further on; and all of it or nothing.
func TestRestoreInThePlaceOfAnother(t *testing.T) {
	x := filled(t, 3)
	want(t, x, "ok", "backup", "close")
	begin := func(capacity int, lines ...string) *Shell {
		y := start(t, capacity, append([]string{schemaLine, openLine, `mutate 0 0 "old" put f "q" 0 "old"`, "flush"}, lines...)...)
		want(t, y, "error 203", "restore")
		want(t, y, "ok", "close")
		y.backup = x.backup
		return y
	}
	y := begin(1 << 20)
	want(t, y, "ok", "restore", openLine)
	want(t, x, "ok", openLine)
	if a, b := tellAll(x), tellAll(y); a != b || strings.Contains(b, "old") || strings.Contains(y.Do("files"), "RUN-1:") {
		t.Errorf("%s\n%s\nwant %s", y.Do("files"), b, a)
	}
	want(t, begin(1<<20, openLineTicks...), "error 112", "restore")
	z := begin(len(x.backup))
	before := z.Do("files")
	want(t, z, "error 4", "restore")
	if after := z.Do("files"); after != before {
		t.Errorf("%s, before %s", after, before)
	}
	for n := 1; ; n++ {
		z := begin(1 << 20)
		want(t, z, "ok", fmt.Sprint("arm ", n))
		answer := z.Do("restore")
		want(t, z, "ok", "crash 5", openLine)
		switch got := tellAll(z); {
		case got != tellAll(y) && answer == "ok", got != tellAll(y) && !strings.HasPrefix(got, "ok 1 1 1 0 "):
			t.Fatalf("arm %d: %s: %s", n, answer, got)
		case answer == "ok" && n < 8 || n > 99:
			t.Fatalf("arm %d: %s", n, answer)
		}
		if answer == "ok" {
			return
		}
		if answer != "error 3" {
			t.Fatalf("arm %d: %s", n, answer)
		}
	}
}

// openLineTicks take a clock beyond that of any other table here.
var openLineTicks = []string{"tick 9999", "flush"}

// 20.4: a backup that is refused leaves the one that was kept; one that is taken takes its place.
func TestBackupIsKept(t *testing.T) {
	x := filled(t, 1)
	want(t, x, "ok", "backup")
	kept := bytes.Clone(x.backup)
	want(t, x, "ok", "arm 1")
	want(t, x, "error 3", "flush", "backup")
	if !bytes.Equal(x.backup, kept) {
		t.Error("a refused backup has changed it")
	}
	want(t, x, "ok", "crash", openLine, "tick 1", "backup")
	if !bytes.Equal(x.backup, kept) {
		t.Error("it is not of what was flushed last")
	}
	want(t, x, "ok", "flush", "backup")
	if bytes.Equal(x.backup, kept) {
		t.Error("it is the old one")
	}
	// Without a command there is nothing that can be restored.
	y := start(t, 1<<20, schemaLine, openLine, "backup", "close")
	want(t, y, "error 110", "restore")
	if y.Do("files") != "ok" {
		t.Error(y.Do("files"))
	}
}

// 20.4: a job whose step is refused is open no more. (Two runs that do not agree on an entry come by an image alone.)
func TestStepThatIsRefused(t *testing.T) {
	var runs [][]byte
	for i, value := range []string{"a", "b"} {
		e := api.Entry{Row: []byte("r"), Ts: 1, Seq: 16, Kind: api.KPut, Value: []byte(value)}
		b, err := run.Write(api.RunOpts{Block: 64, Index: 2 - i, Clock: 1}, e)
		if err != api.OK {
			t.Fatalf("Write: %d", err)
		}
		runs = append(runs, b)
	}
	x := start(t, 1<<20, schemaLine)
	x.backup = layOut(api.Image{Index: 2, Clock: 1, Runs: runs})
	want(t, x, "ok", "restore", openLine)
	for _, line := range []string{"step 9", "finish"} {
		want(t, x, "ok", "compact major")
		want(t, x, "error 31", line)
		if x.job != nil || x.tree.Pins() != 0 {
			t.Errorf("%s leaves a job with %d views", line, x.tree.Pins())
		}
		want(t, x, "error 122", "step 9", "finish", "abort")
	}
}

// 20.4: wherever a line ends, no view is left held but that of an open job.
func TestNoViewIsLeft(t *testing.T) {
	x := filled(t, 2)
	for _, line := range []string{"dump 0", "dump 1", "dump 99", "digest", `get "" "" 1 1 0`, `get "" "" 1 1000 0 back`, `ask 0 0 "" "" 1 1 0`, `mutate 0 0 "a" if there f "q" put f "q" 0 ""`, "verify 3", "backup", "runs", "stat"} {
		x.Do(line)
		if n := x.tree.Pins(); n != 0 {
			t.Errorf("%s leaves %d views held", line, n)
		}
	}
	for _, end := range []string{"flush", "abort", "finish"} {
		want(t, x, "ok", "compact major")
		if n := x.tree.Pins(); n != 1 || x.job == nil {
			t.Errorf("a job with %d views", n)
		}
		want(t, x, "ok", "dump 0", "digest", end)
		if n := x.tree.Pins(); n != 0 || x.job != nil {
			t.Errorf("%s leaves %d views held", end, n)
		}
	}
	want(t, x, "ok", "compact major")
	old := x.tree
	want(t, x, "ok", "close")
	if old.Pins() != 0 || x.job != nil || x.tree != nil || x.machine != nil {
		t.Error("close leaves something")
	}
	want(t, x, "ok", openLine, "compact major", "crash")
	if x.job != nil || x.tree != nil || x.machine != nil {
		t.Error("crash leaves something")
	}
}
