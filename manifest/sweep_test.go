package manifest_test

import (
	"fmt"
	"math/rand"
	"slices"
	"strings"
	"testing"

	"strata/api"
	"strata/disk"
	"strata/manifest"
)

// withRuns is a version whose runs have these numbers.
func withRuns(nums ...int) api.Version {
	v := api.Version{Gen: 1, Flushed: len(nums), Next: 1 << 40, Clock: 1}
	for i, n := range nums {
		v.Runs = append(v.Runs, api.RunMeta{Num: n, Count: 1, Index: len(nums) - i, Clock: 1, Bytes: 1, First: key("a"), Last: key("a")})
	}
	return v
}

func diskOf(t testing.TB, names ...string) *disk.Disk {
	t.Helper()
	var files []api.File
	for i, n := range names {
		files = append(files, tail(n, "xyz", i%4))
	}
	return load(t, 1<<12, files...)
}

// mustSweep: just these files go, in this order, and all others stay as they are.
func mustSweep(t testing.TB, d *disk.Disk, prefix string, v api.Version, want ...string) {
	t.Helper()
	stay := slices.DeleteFunc(d.Files(), func(f api.File) bool { return slices.Contains(want, f.Name) })
	before := d.Counts()
	l, err := manifest.Sweep(d, prefix, v)
	if err != api.OK || !slices.Equal(l, want) {
		t.Fatalf("Sweep: %q, %d, want %q", l, err, want)
	}
	if !sameFiles(d.Files(), stay) {
		t.Fatalf("left: %q", d.List(""))
	}
	if c := d.Counts(); c.Acts-before.Acts != len(want) || c.Deletes-before.Deletes != len(want) {
		t.Fatalf("%+v, and then %+v", before, c)
	}
}

// 10.7: the chapter's example.
func TestExampleOfSweep(t *testing.T) {
	d := diskOf(t, "t0.RUN-1", "t0.RUN-01", "t0.RUN-2", "t1.RUN-1", "t0.MANIFEST.TMP")
	mustSweep(t, d, "t0.", withRuns(2), "t0.MANIFEST.TMP", "t0.RUN-1")
	mustSweep(t, d, "t0.", withRuns(2))
	mustSweep(t, d, "t0.", api.Version{}, "t0.RUN-2")
}

// 10.7: what is no run's file stays, however like one it looks.
func TestWhatIsNotSwept(t *testing.T) {
	d := diskOf(t, "MANIFEST", "RUN-", "RUN-0", "RUN-00", "RUN-01", "RUN-007", "RUN--1", "RUN--0", "RUN-1.", "RUN-1a", "RUN-a1", "RUN-1-1", "RUN-1_0", "RUN-0x1", "RUN-1e1", "RUN-1.0",
		"RUN1", "RUN", "run-1", "xRUN-1", "RUN-RUN-1", "RUN-1/RUN-1", "RUN-1.TMP", "MANIFEST.TMP.TMP", "MANIFEST.TM", "xMANIFEST.TMP", "MANIFEST.TMPx", "SNAP", "1", "12", "9223372036854775807", "t0.RUN-1", "t0.MANIFEST.TMP",
		"RUN-9223372036854775808", "RUN-18446744073709551617", "RUN-99999999999999999999999999", "RUN--9223372036854775808", "RUN-0x7fffffffffffffff", "RUN-1234567890123456789012345678901234567890")
	mustSweep(t, d, "", api.Version{})
	mustSweep(t, d, "", withRuns(1, 5, 12))
	mustSweep(t, d, "t", withRuns(1))
	mustSweep(t, d, "RUN-RUN-", withRuns(1))
}

// 10.7: by the names' order, not by the numbers'; any n that an int has.
func TestTheOrderOfASweep(t *testing.T) {
	names := []string{"p.MANIFEST", "p.RUN-9", "p.RUN-10", "p.RUN-1", "p.RUN-100", "p.RUN-2", "p.RUN-19", "p.RUN-9223372036854775807", "p.RUN-9223372036854775806", "p.MANIFEST.TMP", "p.RUN-1099511627777", "p.RUN-1099511627775"}
	all := []string{"p.MANIFEST.TMP", "p.RUN-1", "p.RUN-10", "p.RUN-100", "p.RUN-1099511627775", "p.RUN-1099511627777", "p.RUN-19", "p.RUN-2", "p.RUN-9", "p.RUN-9223372036854775806", "p.RUN-9223372036854775807"}
	mustSweep(t, diskOf(t, names...), "p.", api.Version{}, all...)
	mustSweep(t, diskOf(t, names...), "p.", withRuns(3, 4), all...)
	mustSweep(t, diskOf(t, names...), "p.", withRuns(10, 2, 1<<40-1, 77), "p.MANIFEST.TMP", "p.RUN-1", "p.RUN-100", "p.RUN-1099511627777", "p.RUN-19", "p.RUN-9", "p.RUN-9223372036854775806", "p.RUN-9223372036854775807")
	mustSweep(t, diskOf(t, names...), "", api.Version{})
	mustSweep(t, diskOf(t, names...), "p", api.Version{})
	mustSweep(t, diskOf(t, names...), "p.R", api.Version{})
	mustSweep(t, diskOf(t, "RUN-3", "RUN-20", "MANIFEST.TMP"), "", api.Version{}, "MANIFEST.TMP", "RUN-20", "RUN-3")
	long := strings.Repeat("p", 32)
	mustSweep(t, diskOf(t, long+"RUN-9223372036854775807", long+"RUN-1"), long, withRuns(1), long+"RUN-9223372036854775807")
}

// 10.7: whatever stands in the manifest's own file is not looked at.
func TestSweepAsksTheVersionAlone(t *testing.T) {
	for _, data := range [][]byte{nil, []byte("none"), encode(t, withRuns(1)), encode(t, withRuns(2))} {
		d := load(t, 1<<12, file("MANIFEST", data), file("RUN-1", nil), file("RUN-2", nil))
		mustSweep(t, d, "", withRuns(2), "RUN-1")
	}
}

// 10.7: of what is no version the zero one alone is taken.
func TestSweepRefused(t *testing.T) {
	names := []string{"MANIFEST.TMP", "RUN-1", "RUN-5", "RUN-299"}
	for i, v := range []api.Version{{Gen: 1}, {Flushed: 1}, {Next: 1}, {Low: 1}, {Clock: 1}, {State: []byte{0}}, {Runs: full().Runs}, {Runs: make([]api.RunMeta, 1)}, {Low: -1}, {Gen: 1, Next: 1}} {
		d := diskOf(t, names...)
		was := d.Files()
		if l, err := manifest.Sweep(d, "", v); len(l) > 0 || err != api.ErrVersion || !sameFiles(d.Files(), was) {
			t.Errorf("version %d: Sweep: %q, %d", i, l, err)
		}
	}
	for _, c := range allChanges() {
		v, d := full(), diskOf(t, "RUN-77")
		c.do(&v)
		l, err := manifest.Sweep(d, "", v)
		mustErr(t, c.what, err, c.want)
		if swept := err == api.OK; swept != (len(l) == 1) || swept != (len(d.List("")) == 0) {
			t.Errorf("%s: Sweep: %q, left %q", c.what, l, d.List(""))
		}
	}
	mustSweep(t, diskOf(t, names...), "", api.Version{State: []byte{}, Runs: []api.RunMeta{}}, "MANIFEST.TMP", "RUN-1", "RUN-299", "RUN-5")
	mustSweep(t, diskOf(t, names...), "", full(), "MANIFEST.TMP")
}

// 10.7: power fails at any Delete: the names of what is gone are told.
func TestPowerFailsInASweep(t *testing.T) {
	names := []string{"MANIFEST", "MANIFEST.TMP", "RUN-1", "RUN-10", "RUN-2", "RUN-3"}
	all := []string{"MANIFEST.TMP", "RUN-1", "RUN-10", "RUN-3"}
	for n := 1; n <= 5; n++ {
		d := diskOf(t, names...)
		d.Arm(n)
		want, gone := api.ErrDown, all[:n-1]
		if n == 5 {
			want = api.OK
		}
		l, err := manifest.Sweep(d, "", withRuns(2))
		if err != want || !slices.Equal(l, gone) || d.Down() != (want == api.ErrDown) {
			t.Errorf("act %d: %q, %d", n, l, err)
		}
		left := slices.DeleteFunc(slices.Clone(names), func(s string) bool { return slices.Contains(gone, s) })
		if got := d.List(""); !slices.Equal(got, left) {
			t.Errorf("act %d: left %q, want %q", n, got, left)
		}
		d.Crash()
		mustSweep(t, d, "", withRuns(2), all[n-1:]...)
	}
}

// 10.7: against the names of all numbers that there are.
func TestSweepAsTheModel(t *testing.T) {
	r := rand.New(rand.NewSource(107))
	for range 2000 {
		var names, want []string
		v := withRuns(r.Perm(12)[:r.Intn(6)]...)
		v.Runs = slices.DeleteFunc(v.Runs, func(m api.RunMeta) bool { return m.Num == 0 })
		needed := map[string]bool{}
		for _, m := range v.Runs {
			needed[fmt.Sprintf("t0.RUN-%d", m.Num)] = true
		}
		for n := range 24 {
			for _, prefix := range []string{"t0.", "t0", "", "t0.t0."} {
				name := fmt.Sprintf("%sRUN-%d", prefix, n)
				if r.Intn(3) == 0 {
					names = append(names, name)
					if prefix == "t0." && n > 0 && !needed[name] {
						want = append(want, name)
					}
				}
			}
		}
		if r.Intn(2) == 0 {
			names, want = append(names, "t0.MANIFEST.TMP"), append(want, "t0.MANIFEST.TMP")
		}
		slices.Sort(want)
		mustSweep(t, diskOf(t, names...), "t0.", v, want...)
	}
}
