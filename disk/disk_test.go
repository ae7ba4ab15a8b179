package disk

import (
	"math"
	"math/rand"
	"slices"
	"strings"
	"testing"

	"tonneau/api"
)

var zeros64 = strings.Repeat("\x00", 64)

// expect checks the result of a call.
func expect(t *testing.T, what string, got, want api.Errno) {
	t.Helper()
	if got != want {
		t.Errorf("%s: error %d, not %d", what, got, want)
	}
}

// contents returns a whole file of a disk that is up.
func contents(t *testing.T, d *Disk, f int) string {
	t.Helper()
	s, err := d.Read(f, 0, d.Size(f))
	if err != api.OK || len(s) != d.Size(f) {
		t.Fatalf("file %d of %d bytes: %d bytes read, error %d", f, d.Size(f), len(s), err)
	}
	return s
}

// holds checks the contents of a file of a disk that is up.
func holds(t *testing.T, d *Disk, f int, want string) {
	t.Helper()
	if got := contents(t, d, f); got != want {
		t.Errorf("file %d: %q, not %q", f, got, want)
	}
}

// crashed returns the contents of a file after a crash of a copy of the disk.
func crashed(t *testing.T, d *Disk, f int, keep ...int) string {
	t.Helper()
	c := d.Copy()
	c.Crash(keep)
	c.Start()
	return contents(t, c, f)
}

// survives checks what is left of a file after a crash.
func survives(t *testing.T, d *Disk, f int, want string, keep ...int) {
	t.Helper()
	if got := crashed(t, d, f, keep...); got != want {
		t.Errorf("file %d after a crash with %v: %q, not %q", f, keep, got, want)
	}
}

// written returns a disk after one write into file 0.
func written(t *testing.T, at int, s string) *Disk {
	t.Helper()
	d := New()
	expect(t, "Write", d.Write(0, at, s), api.OK)
	return d
}

// noFiles are numbers that no file has.
func noFiles() []int {
	return []int{-1, 16, 17, -16, math.MinInt, math.MaxInt}
}

// P2.1

func TestNew(t *testing.T) {
	d := New()
	if d.Down() {
		t.Error("a new disk is down")
	}
	for f := range 16 {
		holds(t, d, f, "")
		survives(t, d, f, "", 1)
	}
	for _, f := range noFiles() {
		if d.Size(f) != 0 {
			t.Error("size of file", f)
		}
	}
	if e := New(); e == d || e.Write(0, 0, "a") != api.OK || d.Size(0) != 0 {
		t.Error("two new disks are one")
	}
}

func TestSizeAndDown(t *testing.T) {
	d := written(t, 100, "abc")
	if d.Size(0) != 103 || d.Size(1) != 0 || d.Size(16) != 0 {
		t.Error("sizes:", d.Size(0), d.Size(1), d.Size(16))
	}
	expect(t, "Sync", d.Sync(0), api.OK)
	d.Crash(nil)
	if !d.Down() || d.Size(0) != 103 || d.Size(-1) != 0 {
		t.Error("down", d.Down(), "with size", d.Size(0))
	}
	d.Start()
	if d.Down() || d.Size(0) != 103 {
		t.Error("up again, with size", d.Size(0))
	}
}

func TestFilesAreSeparate(t *testing.T) {
	d := New()
	for f := range 16 {
		expect(t, "Write", d.Write(f, f, string(rune('a'+f))), api.OK)
	}
	for f := range 16 {
		holds(t, d, f, strings.Repeat("\x00", f)+string(rune('a'+f)))
	}
	expect(t, "Sync", d.Sync(3), api.OK)
	for f := range 16 {
		want := ""
		if f == 3 {
			want = "\x00\x00\x00d"
		}
		survives(t, d, f, want)
	}
}

func TestCopyIsIndependent(t *testing.T) {
	d := written(t, 0, "abc")
	expect(t, "Sync", d.Sync(0), api.OK)
	expect(t, "Write", d.Write(0, 64, "xyz"), api.OK)
	c := d.Copy()
	expect(t, "Write", c.Write(0, 0, "123"), api.OK)
	expect(t, "Write", c.Write(1, 0, "new"), api.OK)
	expect(t, "Write", d.Write(0, 64, "XYZW"), api.OK)
	holds(t, d, 0, "abc"+zeros64[3:]+"XYZW")
	holds(t, d, 1, "")
	holds(t, c, 0, "123"+zeros64[3:]+"xyz")
	survives(t, d, 0, "abc"+zeros64[3:]+"XYZW", 1)
	survives(t, c, 0, "123"+zeros64[3:]+"xyz", 1)
	survives(t, d, 0, "abc")
	survives(t, c, 0, "abc")
	c.Crash(nil)
	if d.Down() || !c.Down() || d.Size(0) != 68 {
		t.Error("a crash of the copy")
	}
	e := c.Copy()
	c.Start()
	if !e.Down() || c.Down() {
		t.Error("a copy of a disk that is down")
	}
}

func TestCopyHasPendingSectors(t *testing.T) {
	d := written(t, 64, "b")
	c := d.Copy()
	// The order of the list is kept, and what is in it is not added again.
	expect(t, "Write", c.Write(0, 0, strings.Repeat("a", 65)), api.OK)
	survives(t, c, 0, zeros64+"a", 1, 0)
	survives(t, c, 0, strings.Repeat("a", 64), 0, 1)
	expect(t, "Sync", c.Sync(0), api.OK)
	survives(t, d, 0, zeros64+"b", 1)
	survives(t, d, 0, "")
}

func TestCopyHasAListOfItsOwn(t *testing.T) {
	d := New()
	for f := range 3 {
		expect(t, "Write", d.Write(f, 0, "abc"), api.OK)
	}
	c := d.Copy()
	expect(t, "Write", c.Write(3, 0, "c"), api.OK)
	expect(t, "Write", d.Write(4, 0, "d"), api.OK)
	survives(t, c, 3, "c", 0, 0, 0, 1)
	survives(t, d, 4, "d", 0, 0, 0, 1)
	expect(t, "Sync", c.Sync(0), api.OK)
	expect(t, "Sync", d.Sync(1), api.OK)
	survives(t, c, 1, "abc", 1, 0, 0)
	survives(t, d, 0, "abc", 1, 0, 0)
	survives(t, d, 2, "abc", 0, 1, 0)
}

func TestCopyHasWhatLoseAndArmSet(t *testing.T) {
	d := written(t, 0, "a")
	d.Lose(2)
	d.Arm(3, []int{1})
	c := d.Copy()
	for _, disk := range []*Disk{c, d} {
		expect(t, "Sync", disk.Sync(0), api.ErrLost)
		expect(t, "Sync", disk.Sync(0), api.ErrLost)
		expect(t, "Write", disk.Write(0, 1, "b"), api.ErrDown)
		disk.Start()
		holds(t, disk, 0, "ab")
	}
	d.Arm(0, nil)
	d.Arm(1, []int{0})
	c = d.Copy()
	d.Arm(0, nil)
	expect(t, "Write", c.Write(0, 0, "x"), api.ErrDown)
	expect(t, "Write", d.Write(0, 0, "y"), api.OK)
	c.Start()
	holds(t, c, 0, "ab")
	holds(t, d, 0, "yb")
}

// P2.2

func TestRead(t *testing.T) {
	d := written(t, 0, "abcdef")
	for _, c := range []struct {
		f, at, size int
		want        string
		err         api.Errno
	}{
		{0, 0, 6, "abcdef", api.OK},
		{0, 0, 0, "", api.OK},
		{0, 2, 3, "cde", api.OK},
		{0, 2, 100, "cdef", api.OK},
		{0, 5, 1, "f", api.OK},
		{0, 6, 1, "", api.OK},
		{0, 7, 1, "", api.OK},
		{0, math.MaxInt, math.MaxInt, "", api.OK},
		{0, 1, math.MaxInt, "bcdef", api.OK},
		{0, -1, 3, "", api.ErrArg},
		{0, 0, -1, "", api.ErrArg},
		{0, math.MinInt, math.MinInt, "", api.ErrArg},
		{1, 0, 10, "", api.OK},
		{15, 0, 10, "", api.OK},
		{16, 0, 1, "", api.ErrArg},
		{-1, 0, 1, "", api.ErrArg},
		{-1, -1, -1, "", api.ErrArg},
		{math.MaxInt, 0, 1, "", api.ErrArg},
	} {
		if got, err := d.Read(c.f, c.at, c.size); got != c.want || err != c.err {
			t.Errorf("Read(%d, %d, %d): %q, error %d", c.f, c.at, c.size, got, err)
		}
	}
}

func TestReadIsACopy(t *testing.T) {
	d := written(t, 0, "abc")
	s := contents(t, d, 0)
	expect(t, "Write", d.Write(0, 0, "xyz"), api.OK)
	if s != "abc" {
		t.Errorf("what was read has become %q", s)
	}
}

func TestWrite(t *testing.T) {
	d := New()
	for _, c := range []struct {
		at   int
		s    string
		want string
	}{
		{0, "abc", "abc"},
		{1, "X", "aXc"},
		{2, "YZ", "aXYZ"},
		{4, "e", "aXYZe"},
		{7, "h", "aXYZe\x00\x00h"},
		{5, "", "aXYZe\x00\x00h"},
		{100, "", "aXYZe\x00\x00h"},
		{0, "\x00\xff", "\x00\xffYZe\x00\x00h"},
	} {
		expect(t, "Write", d.Write(0, c.at, c.s), api.OK)
		holds(t, d, 0, c.want)
	}
	big := strings.Repeat("0123456789", 100)
	expect(t, "Write", d.Write(1, 60, big), api.OK)
	holds(t, d, 1, zeros64[:60]+big)
}

func TestWriteIsRefused(t *testing.T) {
	d := written(t, 0, "abc")
	e := written(t, 0, "abc")
	for _, f := range noFiles() {
		expect(t, "no file", d.Write(f, 0, "x"), api.ErrArg)
		expect(t, "no file, and too long", d.Write(f, 1<<24, "x"), api.ErrArg)
	}
	for _, c := range []struct {
		at  int
		s   string
		err api.Errno
	}{
		{-1, "x", api.ErrArg},
		{-1, "", api.ErrArg},
		{math.MinInt, "xyz", api.ErrArg},
		{1 << 24, "x", api.ErrFull},
		{1<<24 + 1, "", api.ErrFull},
		{1<<24 - 1, "xy", api.ErrFull},
		{math.MaxInt, "", api.ErrFull},
		{math.MaxInt, "x", api.ErrFull},
		{math.MaxInt - 1, "xyz", api.ErrFull},
		{1 << 24, "", api.OK},
	} {
		expect(t, "Write", d.Write(0, c.at, c.s), c.err)
	}
	same(t, d, e)
}

// same checks that two disks cannot be told from one another.
func same(t *testing.T, d, e *Disk) {
	t.Helper()
	if d.Down() != e.Down() {
		t.Error("one is down")
		return
	}
	d, e = d.Copy(), e.Copy()
	d.Start()
	e.Start()
	for f := range 16 {
		holds(t, d, f, contents(t, e, f))
		for _, keep := range [][]int{nil, {1}, {1, 0}, {0, 1}, {0, 0, 1}, {1, 1, 0, 0}} {
			survives(t, d, f, crashed(t, e, f, keep...), keep...)
		}
	}
}

func TestWriteAtTheLimit(t *testing.T) {
	d := written(t, 1<<24-2, "xy")
	if s, err := d.Read(0, 1<<24-3, 10); s != "\x00xy" || err != api.OK || d.Size(0) != 1<<24 {
		t.Errorf("the end of the longest file: %q, error %d, size %d", s, err, d.Size(0))
	}
	expect(t, "one more", d.Write(0, 1<<24, "z"), api.ErrFull)
	expect(t, "all of it", d.Write(1, 0, strings.Repeat("a", 1<<24)), api.OK)
	expect(t, "more than all of it", d.Write(2, 0, strings.Repeat("a", 1<<24+1)), api.ErrFull)
	expect(t, "Sync", d.Sync(0), api.OK)
	d.Crash([]int{0, 1})
	d.Start()
	if d.Size(0) != 1<<24 || d.Size(1) != 1<<24 || d.Size(2) != 0 {
		t.Error("sizes:", d.Size(0), d.Size(1), d.Size(2))
	}
	if s, _ := d.Read(1, 64, 128); s != strings.Repeat("a", 64)+zeros64 {
		t.Error("the second and the third sector")
	}
}

func TestPendingSectorsInTheirOrder(t *testing.T) {
	d := New()
	expect(t, "sectors 3 and 4", d.Write(0, 250, "0123456789"), api.OK)
	expect(t, "sector 1 of another file", d.Write(1, 64, "b"), api.OK)
	expect(t, "sectors 0, 1, and 2 up to its last byte", d.Write(0, 63, strings.Repeat("a", 129)), api.OK)
	expect(t, "sectors 3 and 4 again", d.Write(0, 255, "xy"), api.OK)
	all := contents(t, d, 0)
	cut := func(n int) string { return strings.Repeat(zeros64, n) + all[64*n:min(64*n+64, len(all))] }
	survives(t, d, 0, cut(3), 1, 0, 0, 0, 0, 0)
	survives(t, d, 0, cut(4), 0, 1, 0, 0, 0, 0)
	survives(t, d, 0, "", 0, 0, 1, 0, 0, 0)
	survives(t, d, 1, zeros64+"b", 0, 0, 1, 0, 0, 0)
	survives(t, d, 0, cut(0), 0, 0, 0, 1, 0, 0)
	survives(t, d, 0, cut(1), 0, 0, 0, 0, 1, 0)
	survives(t, d, 0, cut(2), 0, 0, 0, 0, 0, 1)
	survives(t, d, 0, "", 0, 0, 1, 0, 0, 0, 1) // there is no seventh one
}

func TestGapIsPendingOnlyBesideWhatIsWritten(t *testing.T) {
	d := written(t, 0, "abc")
	expect(t, "Sync", d.Sync(0), api.OK)
	expect(t, "Write", d.Write(0, 130, "x"), api.OK)
	holds(t, d, 0, "abc"+zeros64[3:]+zeros64+"\x00\x00x")
	survives(t, d, 0, "abc", 0, 1)
	survives(t, d, 0, "abc"+zeros64[3:]+zeros64+"\x00\x00x", 1, 0)
	expect(t, "no bytes", d.Write(0, 70, ""), api.OK)
	survives(t, d, 0, "abc", 0, 1)
	expect(t, "in the gap", d.Write(0, 70, "y"), api.OK)
	survives(t, d, 0, "abc"+zeros64[3:]+zeros64[:6]+"y"+zeros64[7:], 0, 1)
	expect(t, "Sync", d.Sync(0), api.OK)
	survives(t, d, 0, "abc"+zeros64[3:]+zeros64[:6]+"y"+zeros64[7:]+"\x00\x00x")
}

func TestSync(t *testing.T) {
	d := written(t, 0, "abc")
	expect(t, "Write", d.Write(1, 0, "xyz"), api.OK)
	for _, f := range noFiles() {
		expect(t, "no file", d.Sync(f), api.ErrArg)
	}
	survives(t, d, 0, "")
	expect(t, "Sync", d.Sync(0), api.OK)
	expect(t, "an empty file", d.Sync(2), api.OK)
	survives(t, d, 0, "abc")
	survives(t, d, 1, "")
	// Only the sector of file 1 is in the list, and then that of file 0 again.
	survives(t, d, 1, "xyz", 1, 0)
	expect(t, "Write", d.Write(0, 0, "A"), api.OK)
	survives(t, d, 0, "Abc", 0, 1)
	survives(t, d, 1, "xyz", 1, 0)
	expect(t, "again", d.Sync(0), api.OK)
	expect(t, "twice", d.Sync(0), api.OK)
	survives(t, d, 0, "Abc")
	holds(t, d, 0, "Abc")
}

func TestTruncate(t *testing.T) {
	d := written(t, 0, strings.Repeat("a", 200))
	expect(t, "Write", d.Write(1, 0, "xyz"), api.OK)
	for _, f := range noFiles() {
		expect(t, "no file", d.Truncate(f, 0), api.ErrArg)
	}
	for _, size := range []int{-1, 201, math.MinInt, math.MaxInt} {
		expect(t, "a size out of range", d.Truncate(0, size), api.ErrArg)
	}
	survives(t, d, 0, "")
	expect(t, "Truncate", d.Truncate(0, 100), api.OK)
	holds(t, d, 0, strings.Repeat("a", 100))
	survives(t, d, 0, strings.Repeat("a", 100)) // also what was not synced
	survives(t, d, 1, "xyz", 1, 0)
	survives(t, d, 1, "", 0, 1)
	expect(t, "Write", d.Write(0, 102, "b"), api.OK)
	holds(t, d, 0, strings.Repeat("a", 100)+"\x00\x00b") // nothing of what was cut off comes back
	survives(t, d, 0, strings.Repeat("a", 100))
	survives(t, d, 0, strings.Repeat("a", 100)+"\x00\x00b", 0, 1)
	expect(t, "to its size", d.Truncate(0, 103), api.OK)
	survives(t, d, 0, strings.Repeat("a", 100)+"\x00\x00b")
	expect(t, "to nothing", d.Truncate(0, 0), api.OK)
	expect(t, "an empty file", d.Truncate(0, 0), api.OK)
	expect(t, "an empty file", d.Truncate(5, 0), api.OK)
	expect(t, "an empty file", d.Truncate(5, 1), api.ErrArg)
	survives(t, d, 0, "", 1)
}

func TestDownComesFirst(t *testing.T) {
	d := written(t, 0, "abc")
	expect(t, "Sync", d.Sync(0), api.OK)
	d.Lose(1)
	d.Crash(nil)
	for _, f := range append(noFiles(), 0) {
		s, err := d.Read(f, -1, -1)
		expect(t, "Read", err, api.ErrDown)
		if s != "" {
			t.Errorf("read %q while down", s)
		}
		s, err = d.Read(f, 0, 3)
		expect(t, "Read", err, api.ErrDown)
		if s != "" {
			t.Errorf("read %q while down", s)
		}
		expect(t, "Write", d.Write(f, -1, "x"), api.ErrDown)
		expect(t, "Write", d.Write(f, 0, "x"), api.ErrDown)
		expect(t, "Write", d.Write(f, 1<<24, "x"), api.ErrDown)
		expect(t, "Sync", d.Sync(f), api.ErrDown)
		expect(t, "Truncate", d.Truncate(f, -1), api.ErrDown)
		expect(t, "Truncate", d.Truncate(f, 0), api.ErrDown)
	}
	d.Start()
	holds(t, d, 0, "abc")
	expect(t, "the lost sync is still due", d.Sync(0), api.ErrLost)
}

// P2.3

func TestLose(t *testing.T) {
	d := written(t, 0, "abc")
	d.Lose(2)
	expect(t, "no file", d.Sync(16), api.ErrArg)
	expect(t, "the first one", d.Sync(0), api.ErrLost)
	expect(t, "of any file", d.Sync(1), api.ErrLost)
	survives(t, d, 0, "")
	survives(t, d, 0, "abc", 1) // its sector is still pending
	expect(t, "the third one", d.Sync(0), api.OK)
	survives(t, d, 0, "abc")
	d.Lose(5)
	d.Lose(1)
	expect(t, "one is due", d.Sync(0), api.ErrLost)
	expect(t, "no more", d.Sync(0), api.OK)
	for _, n := range []int{-1, math.MinInt, 0} {
		d.Lose(3)
		d.Lose(n)
		expect(t, "none is due", d.Sync(0), api.OK)
	}
	d.Lose(math.MaxInt)
	expect(t, "very many", d.Sync(0), api.ErrLost)
	expect(t, "Write", d.Write(0, 0, "x"), api.OK)
	expect(t, "Truncate is no sync", d.Truncate(0, 1), api.OK)
	survives(t, d, 0, "x")
}

func TestLostSyncsStayDueAfterACrash(t *testing.T) {
	d := New()
	d.Lose(2)
	d.Crash(nil)
	d.Start()
	expect(t, "the first one", d.Sync(0), api.ErrLost)
	d.Crash(nil)
	d.Lose(3)
	d.Start()
	for range 3 {
		expect(t, "set while down", d.Sync(0), api.ErrLost)
	}
	expect(t, "no more", d.Sync(0), api.OK)
}

func TestExamples(t *testing.T) {
	d := written(t, 0, "abc")
	expect(t, "Sync", d.Sync(0), api.OK)
	expect(t, "Write", d.Write(0, 1, "XY"), api.OK)
	survives(t, d, 0, "aXY", 1)
	survives(t, d, 0, "abc", 0)
	survives(t, d, 0, "abc")
	survives(t, written(t, 62, "abcd"), 0, zeros64+"cd", 0, 1)
	x := strings.Repeat("x", 64)
	survives(t, written(t, 0, strings.Repeat("x", 200)), 0, x+zeros64+x, 1, 0)
}

func TestWhichSectorsSurvive(t *testing.T) {
	a, b, c := strings.Repeat("a", 64), strings.Repeat("b", 64), "c"
	d := written(t, 0, a+b+c)
	for _, e := range []struct {
		keep []int
		want string
	}{
		{nil, ""},
		{[]int{}, ""},
		{[]int{0}, ""},
		{[]int{2, -2, math.MinInt}, ""},
		{[]int{1}, a + b + c},
		{[]int{-1, 7, -3}, a + b + c},
		{[]int{math.MaxInt}, a + b + c},
		{[]int{1, 0}, a + zeros64 + c},
		{[]int{0, 1}, zeros64 + b},
		{[]int{0, -1}, zeros64 + b},
		{[]int{1, 0, 0}, a},
		{[]int{0, 0, 1, 1, 1}, zeros64 + zeros64 + c},
		{[]int{0, 0, 0, 1}, ""},
	} {
		survives(t, d, 0, e.want, e.keep...)
	}
}

func TestWhatSurvivesIsAsInTheFile(t *testing.T) {
	d := written(t, 0, "abc")
	expect(t, "Write", d.Write(0, 64, "x"), api.OK)
	expect(t, "Write", d.Write(0, 1, "YZW"), api.OK)
	survives(t, d, 0, "aYZW"+zeros64[4:], 1, 0) // the sector has grown with the file
	d = written(t, 0, strings.Repeat("a", 100))
	expect(t, "Sync", d.Sync(0), api.OK)
	expect(t, "Write", d.Write(0, 90, strings.Repeat("b", 100)), api.OK)
	aaa := strings.Repeat("a", 90)
	survives(t, d, 0, aaa+strings.Repeat("b", 38), 1, 0)
	survives(t, d, 0, aaa+strings.Repeat("a", 10)+zeros64[:28]+strings.Repeat("b", 62), 0, 1)
}

func TestCrashOfADiskThatIsDown(t *testing.T) {
	d := written(t, 0, "abc")
	expect(t, "Sync", d.Sync(0), api.OK)
	expect(t, "Write", d.Write(0, 0, "xyz"), api.OK)
	d.Crash(nil)
	d.Crash([]int{1})
	d.Start()
	holds(t, d, 0, "abc")
	survives(t, d, 0, "abc", 1) // nothing is pending any more
	d.Start()
	if d.Down() {
		t.Error("down after Start")
	}
	expect(t, "Write", d.Write(0, 0, "xyz"), api.OK)
	d.Start()
	survives(t, d, 0, "abc")
	survives(t, d, 0, "xyz", 1)
}

func TestAfterACrashTheFilesAreDurable(t *testing.T) {
	d := written(t, 0, "abc")
	expect(t, "Write", d.Write(1, 64, "xyz"), api.OK)
	d.Crash([]int{0, 1})
	if d.Size(0) != 0 || d.Size(1) != 67 {
		t.Error("sizes while down:", d.Size(0), d.Size(1))
	}
	d.Start()
	holds(t, d, 1, zeros64+"xyz")
	expect(t, "Write", d.Write(1, 64, "XY"), api.OK)
	survives(t, d, 1, zeros64+"xyz")
	survives(t, d, 1, zeros64+"XYz", 1)
}

// P2.4

func TestArmedWrite(t *testing.T) {
	for _, c := range []struct {
		keep []int
		want string
	}{{[]int{1}, "aXY"}, {[]int{0}, "abc"}, {nil, "abc"}} {
		d := written(t, 0, "abc")
		expect(t, "Sync", d.Sync(0), api.OK)
		d.Arm(1, c.keep)
		expect(t, "Write", d.Write(0, 1, "XY"), api.ErrDown)
		if !d.Down() {
			t.Error("up after the crash")
		}
		d.Start()
		holds(t, d, 0, c.want)
		expect(t, "no other crash", d.Write(0, 0, "z"), api.OK)
	}
}

func TestArmedSyncIsNotPerformed(t *testing.T) {
	d := written(t, 0, "abc")
	d.Lose(1)
	d.Arm(1, nil)
	expect(t, "Sync", d.Sync(0), api.ErrDown)
	if !d.Down() {
		t.Error("up after the crash")
	}
	d.Start()
	holds(t, d, 0, "")
	expect(t, "the lost sync is still due", d.Sync(0), api.ErrLost)
	expect(t, "then", d.Sync(0), api.OK)
}

func TestArmedTruncateIsNotPerformed(t *testing.T) {
	d := written(t, 0, "abc")
	expect(t, "Sync", d.Sync(0), api.OK)
	d.Arm(1, []int{1})
	expect(t, "Truncate", d.Truncate(0, 1), api.ErrDown)
	d.Start()
	holds(t, d, 0, "abc")
}

func TestArmedCallThatWouldBeRefused(t *testing.T) {
	for _, call := range []func(d *Disk) api.Errno{
		func(d *Disk) api.Errno { return d.Write(16, 0, "x") },
		func(d *Disk) api.Errno { return d.Write(0, -1, "x") },
		func(d *Disk) api.Errno { return d.Write(0, 1<<24, "x") },
		func(d *Disk) api.Errno { return d.Write(0, 0, "") },
		func(d *Disk) api.Errno { return d.Sync(-1) },
		func(d *Disk) api.Errno { return d.Truncate(-1, 0) },
		func(d *Disk) api.Errno { return d.Truncate(0, 99) },
	} {
		for n := 1; n <= 3; n++ { // also those that are refused before are counted
			d := written(t, 0, "abc")
			e := d.Copy()
			d.Arm(n, []int{1})
			for range n - 1 {
				expect(t, "before", call(d), call(e))
			}
			expect(t, "the armed call", call(d), api.ErrDown)
			e.Crash([]int{1})
			same(t, d, e)
			d.Start()
			holds(t, d, 0, "abc")
		}
	}
}

func TestArmCountsCalls(t *testing.T) {
	d := written(t, 0, "abc")
	d.Arm(4, []int{1})
	expect(t, "Write", d.Write(0, 0, "x"), api.OK)
	if _, err := d.Read(0, 0, 1); err != api.OK || d.Size(0) != 3 || d.Copy().Down() {
		t.Error("calls that do not count")
	}
	expect(t, "Sync", d.Sync(0), api.OK)
	d.Lose(0)
	d.Start()
	expect(t, "Truncate", d.Truncate(0, 2), api.OK)
	expect(t, "Write", d.Write(5, 0, "yz"), api.ErrDown)
	expect(t, "while down", d.Write(5, 0, "yz"), api.ErrDown)
	d.Start()
	holds(t, d, 0, "xb")
	holds(t, d, 5, "yz")
}

func TestArmWhileDown(t *testing.T) {
	d := New()
	d.Crash(nil)
	d.Arm(2, []int{1})
	for range 5 {
		expect(t, "while down", d.Write(0, 0, "x"), api.ErrDown)
		expect(t, "while down", d.Sync(0), api.ErrDown)
		expect(t, "while down", d.Truncate(0, 0), api.ErrDown)
	}
	d.Crash(nil) // does nothing: the schedule stays
	d.Start()
	expect(t, "the first call", d.Write(0, 0, "a"), api.OK)
	expect(t, "the second call", d.Write(0, 1, "b"), api.ErrDown)
	d.Start()
	holds(t, d, 0, "ab")
}

func TestArmIsReplacedAndCancelled(t *testing.T) {
	d := New()
	for _, n := range []int{0, -1, math.MinInt} {
		d.Arm(1, nil)
		d.Arm(n, []int{1})
		expect(t, "no crash is scheduled", d.Sync(0), api.OK)
	}
	d.Arm(1, nil)
	d.Arm(2, []int{1})
	expect(t, "the first call", d.Write(0, 0, "a"), api.OK)
	d.Arm(2, []int{0, 1})
	expect(t, "the first call", d.Write(0, 64, "b"), api.OK)
	expect(t, "the second call", d.Sync(0), api.ErrDown)
	d.Start()
	holds(t, d, 0, zeros64+"b")
	d.Arm(1, nil)
	d.Crash(nil)
	d.Start()
	expect(t, "cancelled", d.Sync(0), api.OK)
	d.Arm(math.MaxInt, nil)
	for range 100 {
		expect(t, "not yet", d.Sync(0), api.OK)
	}
}

func TestArgumentsAreNotKept(t *testing.T) {
	d := written(t, 0, "abc")
	keep := []int{1}
	d.Arm(1, keep)
	keep[0] = 0
	expect(t, "Sync", d.Sync(0), api.ErrDown)
	d.Start()
	holds(t, d, 0, "abc")
	keep = []int{3, 2}
	d.Arm(1, keep)
	expect(t, "Sync", d.Sync(0), api.ErrDown)
	d.Start()
	d.Crash(keep)
	if !slices.Equal(keep, []int{3, 2}) {
		t.Error("an argument was modified:", keep)
	}
}

// P2.1 to P2.4, all calls together

// model says what the document says, word for word.
type model struct {
	files, durable [16]string
	pending        [][2]int
	down           bool
	lost, armed    int
	keep           []int
}

func (m *model) put(b string, at int, s string) string {
	if s == "" {
		return b
	}
	for len(b) < at {
		b += "\x00"
	}
	if at+len(s) > len(b) {
		return b[:at] + s
	}
	return b[:at] + s + b[at+len(s):]
}

func (m *model) write(f, at int, s string) api.Errno {
	switch {
	case m.down:
		return api.ErrDown
	case f < 0 || f > 15 || at < 0:
		return api.ErrArg
	case at+len(s) > 1<<24:
		return api.ErrFull
	}
	m.files[f] = m.put(m.files[f], at, s)
	for i := at; i < at+len(s); i++ {
		if p := [2]int{f, i / 64}; !slices.Contains(m.pending, p) {
			m.pending = append(m.pending, p)
		}
	}
	return api.OK
}

func (m *model) sync(f int) api.Errno {
	switch {
	case m.down:
		return api.ErrDown
	case f < 0 || f > 15:
		return api.ErrArg
	case m.lost > 0:
		m.lost--
		return api.ErrLost
	}
	m.durable[f] = m.files[f]
	m.pending = slices.DeleteFunc(m.pending, func(p [2]int) bool { return p[0] == f })
	return api.OK
}

func (m *model) truncate(f, size int) api.Errno {
	switch {
	case m.down:
		return api.ErrDown
	case f < 0 || f > 15 || size < 0 || size > len(m.files[f]):
		return api.ErrArg
	}
	m.files[f] = m.files[f][:size]
	m.durable[f] = m.files[f]
	m.pending = slices.DeleteFunc(m.pending, func(p [2]int) bool { return p[0] == f })
	return api.OK
}

func (m *model) crash(keep []int) {
	if m.down {
		return
	}
	m.down = true
	for i, p := range m.pending {
		if len(keep) > 0 && keep[i%len(keep)]%2 != 0 {
			f, at := p[0], p[1]*64
			m.durable[f] = m.put(m.durable[f], at, m.files[f][at:min(at+64, len(m.files[f]))])
		}
	}
	m.files, m.pending, m.armed = m.durable, nil, 0
}

// call performs a call that Arm counts.
func (m *model) call(isWrite bool, perform func() api.Errno) api.Errno {
	if m.down || m.armed == 0 || m.armed > 1 {
		if !m.down && m.armed > 1 {
			m.armed--
		}
		return perform()
	}
	if isWrite {
		perform()
	}
	m.crash(m.keep)
	return api.ErrDown
}

func someKeep(r *rand.Rand) []int {
	keep := make([]int, r.Intn(5))
	for i := range keep {
		keep[i] = r.Intn(7) - 3
	}
	return keep
}

func TestAgainstTheModel(t *testing.T) {
	r := rand.New(rand.NewSource(2))
	for range 400 {
		d, m := New(), &model{}
		for range 150 {
			f, at := r.Intn(3), r.Intn(300)-3
			if r.Intn(30) == 0 {
				f = r.Intn(40) - 12
			}
			s := strings.Repeat(string(rune('a'+r.Intn(26))), r.Intn(4)*r.Intn(60))
			keep, n := someKeep(r), r.Intn(8)-1
			switch r.Intn(12) {
			default:
				expect(t, "Write", d.Write(f, at, s), m.call(true, func() api.Errno { return m.write(f, at, s) }))
			case 5, 6:
				expect(t, "Sync", d.Sync(f), m.call(false, func() api.Errno { return m.sync(f) }))
			case 7:
				expect(t, "Truncate", d.Truncate(f, at), m.call(false, func() api.Errno { return m.truncate(f, at) }))
			case 8:
				d.Lose(n - 3)
				m.lost = max(n-3, 0)
			case 9:
				d.Arm(n, keep)
				m.armed, m.keep = max(n, 0), keep
			case 10:
				d.Crash(keep)
				m.crash(keep)
			case 11:
				d = d.Copy()
				d.Start()
				m.down = false
			}
			checkAgainst(t, d, m)
			if t.Failed() {
				return
			}
		}
	}
}

// checkAgainst compares what can be seen of a disk with the model.
func checkAgainst(t *testing.T, d *Disk, m *model) {
	t.Helper()
	if d.Down() != m.down {
		t.Fatal("down:", d.Down())
	}
	for f, want := range m.files {
		if d.Size(f) != len(want) {
			t.Fatalf("file %d: size %d, not %d", f, d.Size(f), len(want))
		}
		if s, err := d.Read(f, 0, len(want)+1); !m.down && (s != want || err != api.OK) {
			t.Fatalf("file %d: %q, not %q", f, s, want)
		}
	}
}

// P2.5

// someHistory writes, syncs and truncates at random, and returns the disk and what Crash has to leave of the files if no sector survives.
func someHistory(t *testing.T, r *rand.Rand) (*Disk, [2]string) {
	d := New()
	var durable [2]string
	for range r.Intn(12) {
		f := r.Intn(2)
		switch r.Intn(6) {
		default:
			s := make([]byte, r.Intn(150))
			for i := range s {
				s[i] = byte(1 + r.Intn(255))
			}
			expect(t, "Write", d.Write(f, r.Intn(400), string(s)), api.OK)
		case 4:
			expect(t, "Sync", d.Sync(f), api.OK)
			durable[f] = contents(t, d, f)
		case 5:
			expect(t, "Truncate", d.Truncate(f, d.Size(f)*3/4), api.OK)
			durable[f] = contents(t, d, f)
		}
	}
	return d, durable
}

// byteOr0 returns the byte of s with an index, or 0 if there is none.
func byteOr0(s string, i int) byte {
	if i < len(s) {
		return s[i]
	}
	return 0
}

func TestWhatACrashLeaves(t *testing.T) {
	r := rand.New(rand.NewSource(5))
	for range 3000 {
		d, durable := someHistory(t, r)
		c := d.Copy()
		c.Crash(someKeep(r))
		c.Start()
		for f := range 2 {
			before, after := contents(t, d, f), contents(t, c, f)
			if len(after) < len(durable[f]) || len(after) > len(before) {
				t.Fatalf("%d bytes of %d, of which %d were durable", len(after), len(before), len(durable[f]))
			}
			for at := 0; at < len(after); at += 64 {
				old, now := true, true // the sector is wholly the old one, or the new one
				for i := at; i < min(at+64, len(after)); i++ {
					old = old && after[i] == byteOr0(durable[f], i)
					now = now && after[i] == byteOr0(before, i)
				}
				if !old && !now {
					t.Fatalf("file %d: the sector at %d is torn", f, at)
				}
			}
		}
	}
}

func TestNoSectorDependsOnOthers(t *testing.T) {
	d := New()
	before := strings.Repeat("0123456789", 50)
	expect(t, "Write", d.Write(0, 0, before), api.OK)
	expect(t, "Sync", d.Sync(0), api.OK)
	expect(t, "Write", d.Write(0, 30, strings.Repeat("x", 300)), api.OK)
	after := contents(t, d, 0)
	for set := range 1 << 6 { // sectors 0 to 5 are pending
		var keep []int
		want := ""
		for n := range 6 {
			keep = append(keep, set>>n)
			if set>>n&1 == 1 {
				want += after[64*n : 64*n+64]
			} else {
				want += before[64*n : 64*n+64]
			}
		}
		survives(t, d, 0, want+before[384:], keep...)
	}
}

func TestTruncateIsAtomic(t *testing.T) {
	before := strings.Repeat("a", 300)
	for n := 1; n <= 2; n++ {
		d := written(t, 0, before)
		expect(t, "Sync", d.Sync(0), api.OK)
		d.Arm(n, []int{0, 1})
		err := d.Truncate(0, 10)
		d.Crash([]int{1, 0})
		d.Start()
		if n == 1 {
			expect(t, "Truncate", err, api.ErrDown)
			holds(t, d, 0, before)
		} else {
			expect(t, "Truncate", err, api.OK)
			holds(t, d, 0, before[:10])
		}
	}
}

// P2.6

func TestWhatWasSyncedIsNotTouched(t *testing.T) {
	r := rand.New(rand.NewSource(6))
	for range 1000 {
		d := New()
		l := make([]byte, 500)
		for i := range l {
			l[i] = byte(1 + r.Intn(255))
		}
		expect(t, "Write", d.Write(0, 0, string(l)), api.OK)
		expect(t, "Sync", d.Sync(0), api.OK)
		clean := slices.Repeat([]bool{true}, 500)
		for range r.Intn(4) {
			at, s := r.Intn(500), strings.Repeat("w", r.Intn(100))
			expect(t, "Write", d.Write(0, at, s), api.OK)
			for i := at; i < min(at+len(s), 500); i++ {
				clean[i] = false
			}
		}
		expect(t, "another file", d.Write(1, 0, strings.Repeat("v", 100)), api.OK)
		d.Arm(r.Intn(2), someKeep(r))
		d.Lose(r.Intn(2))
		d.Sync(0)
		for range 3 {
			d.Crash(someKeep(r))
			d.Start()
		}
		after := contents(t, d, 0)
		for i, b := range l {
			if clean[i] && after[i] != b {
				t.Fatalf("byte %d is %d, not %d", i, after[i], b)
			}
		}
	}
}

// A journal appends and syncs very often: that costs what is written, not the whole file.
func TestManySmallSyncs(t *testing.T) {
	d := New()
	expect(t, "Write", d.Write(0, 0, strings.Repeat("a", 1<<24-20000)), api.OK)
	for range 20000 {
		expect(t, "Write", d.Write(0, d.Size(0), "b"), api.OK)
		expect(t, "Sync", d.Sync(0), api.OK)
	}
	survives(t, d, 0, strings.Repeat("a", 1<<24-20000)+strings.Repeat("b", 20000))
}
