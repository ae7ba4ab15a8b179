package journal

import (
	"math"
	"math/rand"
	"slices"
	"strconv"
	"strings"
	"testing"
	"unsafe"

	"tonneau/api"
	"tonneau/disk"
)

// expect checks the result of a call.
func expect(t *testing.T, what string, got, want api.Errno) {
	t.Helper()
	if got != want {
		t.Errorf("%s: error %d, not %d", what, got, want)
	}
}

// contents returns a whole file of a disk that is up.
func contents(t *testing.T, d *disk.Disk, f int) string {
	t.Helper()
	s, err := d.Read(f, 0, d.Size(f))
	if err != api.OK {
		t.Fatal("Read: error", err)
	}
	return s
}

// diskWith returns a disk whose file f holds s, which is durable.
func diskWith(t *testing.T, f int, s string) *disk.Disk {
	t.Helper()
	d := disk.New()
	expect(t, "Write", d.Write(f, 0, s), api.OK)
	expect(t, "Sync", d.Sync(f), api.OK)
	return d
}

// opened opens a journal, which has to succeed.
func opened(t *testing.T, d *disk.Disk, f int) *Journal {
	t.Helper()
	j, err := Open(d, f)
	if err != api.OK || j == nil {
		t.Fatal("Open: error", err)
	}
	return j
}

// refused checks that a call of Open returns an error.
func refused(t *testing.T, d *disk.Disk, f int, want api.Errno) {
	t.Helper()
	if j, err := Open(d, f); err != want || j != nil {
		t.Errorf("Open of %d: error %d, not %d; a journal: %v", f, err, want, j != nil)
	}
}

// appended appends records, each of which has to succeed.
func appended(t *testing.T, j *Journal, records ...string) {
	t.Helper()
	for _, r := range records {
		expect(t, "Append", j.Append(r), api.OK)
	}
}

// holds checks the list of a journal, by all the ways to see it.
func holds(t *testing.T, j *Journal, want ...string) {
	t.Helper()
	if l := j.All(); !slices.Equal(l, want) || j.Len() != len(want) {
		t.Errorf("%d records %.200q, not %.200q", j.Len(), l, want)
	}
	for i, r := range want {
		if j.Get(i) != r {
			t.Errorf("record %d: %.200q, not %.200q", i, j.Get(i), r)
		}
	}
	for _, i := range []int{-1, len(want), len(want) + 1, math.MinInt, math.MaxInt} {
		if r := j.Get(i); r != "" {
			t.Errorf("record %d of %d: %.200q", i, len(want), r)
		}
	}
}

// formOf is the form of a record, written without the layers below.
func formOf(record string) string {
	return strconv.Itoa(len(record)) + ":" + record + "," + strconv.Itoa(sumOf(record)) + ";"
}

// formsOf is a file with records.
func formsOf(records ...string) string {
	var b strings.Builder
	for _, r := range records {
		b.WriteString(formOf(r))
	}
	return b.String()
}

// sumOf is the sum of a record of a file: it is reduced once, at the end, because that of 2^24 bytes is an int.
func sumOf(record string) int {
	sum := 0
	for i := range len(record) {
		sum += int(record[i]) * (i + 1)
	}
	return sum % 2147483647
}

// madeOf returns a record with n bytes b.
func madeOf(b byte, n int) string {
	return strings.Repeat(string([]byte{b}), n)
}

// withSum returns a record with n bytes whose positions and bytes add up to sum, before it is reduced.
func withSum(t *testing.T, n, sum int) string {
	t.Helper()
	b := make([]byte, n)
	for i := n; i >= 1; i-- {
		b[i-1] = byte(min(255, sum/i))
		sum -= i * int(b[i-1])
	}
	if sum != 0 {
		t.Fatal("there is no such record")
	}
	return string(b)
}

// P3.1: Sum

func TestSum(t *testing.T) {
	for _, c := range []struct {
		record string
		want   int
	}{
		{"", 0}, {"a", 97}, {"ab", 97 + 2*98}, {"ba", 98 + 2*97}, {"\x00", 0}, {"\x00\x00\x01", 3}, {"\xff", 255}, {"\xff\xff", 765},
		{"\u20ac", 0xe2 + 2*0x82 + 3*0xac},
	} {
		if got := Sum(c.record); got != c.want {
			t.Errorf("Sum of %q: %d, not %d", c.record, got, c.want)
		}
	}
}

func TestSumIsReduced(t *testing.T) {
	for _, c := range []struct{ sum, want int }{
		{2147483645, 2147483645}, {2147483646, 2147483646}, {2147483647, 0}, {2147483648, 1}, {2147483649, 2}, {4294967293, 2147483646}, {4294967294, 0}, {4294967295, 1},
	} {
		if got := Sum(withSum(t, 6000, c.sum)); got != c.want {
			t.Errorf("the sum %d: %d, not %d", c.sum, got, c.want)
		}
	}
	for _, n := range []int{4000, 4103, 4104, 4105, 20000, 20001, 3000000} {
		for _, b := range []byte{0, 1, 254, 255} {
			if r := madeOf(b, n); Sum(r) != sumOf(r) {
				t.Errorf("the sum of %d bytes %d: %d, not %d", n, b, Sum(r), sumOf(r))
			}
		}
	}
}

// P3.1: Open

func TestOpenOfNoFile(t *testing.T) {
	d := diskWith(t, 15, "abc")
	d.Lose(1)
	d.Arm(2, nil)
	for _, f := range []int{-1, 16, 17, math.MinInt, math.MaxInt} {
		refused(t, d, f, api.ErrArg)
	}
	// No call reached the disk: the lost sync is still due, and is the first call that counts.
	expect(t, "Sync", d.Sync(0), api.ErrLost)
	expect(t, "Sync", d.Sync(0), api.ErrDown)
	refused(t, d, 16, api.ErrArg)
	refused(t, d, 0, api.ErrDown)
}

func TestOpenOfEachFile(t *testing.T) {
	d := disk.New()
	for f := range 16 {
		holds(t, opened(t, d, f))
		appended(t, opened(t, d, f), strconv.Itoa(f))
	}
	for f := range 16 {
		holds(t, opened(t, d, f), strconv.Itoa(f))
		if got, want := contents(t, d, f), formOf(strconv.Itoa(f)); got != want {
			t.Errorf("file %d: %q, not %q", f, got, want)
		}
	}
}

func TestOpenSyncsFirst(t *testing.T) {
	d := diskWith(t, 3, formOf("a"))
	expect(t, "Write", d.Write(3, d.Size(3), formOf("b")+"torn"), api.OK)
	d.Lose(1)
	before := contents(t, d, 3)
	refused(t, d, 3, api.ErrLost)
	if contents(t, d, 3) != before {
		t.Error("a sync was lost, and the file was truncated")
	}
	expect(t, "Write to another file", d.Write(0, 0, "other"), api.OK)
	holds(t, opened(t, d.Copy(), 3), "a", "b")
	d = diskWith(t, 3, formOf("a")) // nothing is cut off here: the sync alone makes it durable
	expect(t, "Write", d.Write(3, d.Size(3), formOf("b")), api.OK)
	expect(t, "Write to another file", d.Write(0, 0, "other"), api.OK)
	holds(t, opened(t, d, 3), "a", "b")
	d.Crash(nil)
	refused(t, d, 3, api.ErrDown)
	d.Start()
	if got := contents(t, d, 3) + contents(t, d, 0); got != formsOf("a", "b") {
		t.Errorf("after a crash: %q", got)
	}
}

// The calls that Open performs are Sync, and Truncate only if there is something to cut off.
func TestWhatOpenPerforms(t *testing.T) {
	for _, c := range []struct {
		file  string
		calls int
	}{{"", 1}, {formsOf("ab", ""), 1}, {"x", 2}, {formsOf("ab", "") + "x", 2}, {formsOf("ab", "") + "\x00", 2}, {formOf("a")[:5], 2}} {
		for n := 1; n <= c.calls; n++ {
			d := diskWith(t, 3, c.file)
			d.Arm(n, []int{1})
			refused(t, d, 3, api.ErrDown)
			d.Start()
			if got := contents(t, d, 3); got != c.file {
				t.Errorf("a crash in call %d of Open: %q, not %q", n, got, c.file)
			}
		}
		d := diskWith(t, 3, c.file)
		d.Arm(c.calls+1, nil)
		j := opened(t, d, 3)
		expect(t, "the next call", j.Sync(), api.ErrDown)
	}
}

func TestOpenReadsRecords(t *testing.T) {
	long, longest := madeOf('x', 4001), madeOf(0xff, 20000)
	for _, l := range [][]string{
		{}, {""}, {"", "", ""}, {"ab", ""}, {"a", "b", "a"}, {"1:a,97;"}, {"\x00"}, {"\x00\xff", ";", ",", ":"}, {"0123456789"}, {long}, {longest}, {longest, "", longest}, {withSum(t, 6000, 2147483647)},
	} {
		file := formsOf(l...)
		for _, tail := range []string{
			"", "\x00", "\x00\x00\x00", "x", "0", "1", "1:", "1:a", "1:a,", "1:a,9", "1:a,97", "1:a,98;", "1:a,96;", "1:a,097;", "1:a,-97;", "1:a,97,", "1:a,97:", "1:b,97;", "1:a;97;", "01:a,97;", "-1:a,97;", "+1:a,97;", " 1:a,97;", "2:a,97;", "0:a,97;", "0:,", "0:,0", "0:,00;", "0:,-0;", "0:,1;", "0:,2147483647;", "1:\x00,2147483647;", "1[1:a,97;]", "97;", ";",
			"1:a,2147483744;", "1:a,18446744073709551713;", "9223372036854775807:a,97;", "9223372036854775808:a,97;", "18446744073709551617:a,97;",
			formOf(madeOf(0xff, 20001)), formOf(madeOf(0, 20001)), formOf(madeOf('x', 30000)),
		} {
			if tail != "" {
				tail = tail + formOf("after it")
			}
			d := diskWith(t, 0, file+tail)
			holds(t, opened(t, d, 0), l...)
			if got := contents(t, d, 0); got != file {
				t.Errorf("%.200q: truncated to %d bytes, not %d", file+tail, len(got), len(file))
			}
		}
	}
}

func TestOpenTruncatesDurably(t *testing.T) {
	d := diskWith(t, 0, "2:ab,293;1:a,98;")
	j := opened(t, d, 0)
	if d.Size(0) != 9 {
		t.Error("size", d.Size(0))
	}
	d.Crash(nil)
	d.Start()
	if got := contents(t, d, 0); got != "2:ab,293;" {
		t.Errorf("%q", got)
	}
	holds(t, j, "ab")
	d = diskWith(t, 0, "2:ab,293;1:a,98;")
	appended(t, opened(t, d, 0), "c")
	if got := contents(t, d, 0); got != "2:ab,293;1:c,99;" {
		t.Errorf("appended after what was cut off: %q", got)
	}
}

// recordsIn says what the document says of the records of a string: at each position it tries all lengths of a record.
func recordsIn(s string) (records []string, length int) {
	for {
		found := false
		for n := 0; n <= min(20000, len(s)-length) && !found; n++ {
			head := strconv.Itoa(n) + ":"
			if rest := s[length:]; len(head)+n <= len(rest) && strings.HasPrefix(rest, formOf(rest[len(head):len(head)+n])) {
				records = append(records, rest[len(head):len(head)+n])
				length += len(formOf(records[len(records)-1]))
				found = true
			}
		}
		if !found {
			return records, length
		}
	}
}

func someRecord(r *rand.Rand, most int) string {
	b := make([]byte, r.Intn(most+1))
	for i := range b {
		b[i] = "\x00\x01\xff0129:;,-[]ab"[r.Intn(15)]
	}
	return string(b)
}

func TestOpenAgainstTheModel(t *testing.T) {
	r := rand.New(rand.NewSource(1))
	for range 4000 {
		var file []byte
		for range r.Intn(4) {
			file = append(file, formOf(someRecord(r, 4))...)
		}
		for range r.Intn(3) { // spoil it: change, remove or insert a byte
			if len(file) > 0 {
				i, b := r.Intn(len(file)), "\x000129:;,-a"[r.Intn(10)]
				switch r.Intn(3) {
				case 0:
					file[i] = b
				case 1:
					file = slices.Delete(file, i, i+1)
				case 2:
					file = slices.Insert(file, i, b)
				}
			}
		}
		want, length := recordsIn(string(file))
		d := diskWith(t, 0, string(file))
		holds(t, opened(t, d, 0), want...)
		if got := contents(t, d, 0); got != string(file[:length]) {
			t.Fatalf("%q: truncated to %q, not %q", file, got, file[:length])
		}
	}
}

// A list that is longer than what can be appended to is read all the same.
func TestOpenOfMoreThanMax(t *testing.T) {
	l := slices.Repeat([]string{madeOf('y', 20000)}, 60)
	d := diskWith(t, 0, formsOf(l...)+"tail")
	j := opened(t, d, 0)
	holds(t, j, l...)
	if d.Size(0) != len(formsOf(l...)) {
		t.Error("size", d.Size(0))
	}
	expect(t, "Append", j.Append(""), api.ErrFull)
	expect(t, "Sync", j.Sync(), api.OK)
	holds(t, j, l...)
}

// A file of 2^24 bytes is read in a time that grows with its length, not with the length of what is left at each record.
func TestOpenOfAFullFile(t *testing.T) {
	for _, c := range []struct {
		file    string
		records int
	}{
		{strings.Repeat(formOf(""), 1<<24/5), 1 << 24 / 5},
		{madeOf('7', 1<<24), 0},
		{madeOf(0, 1<<24), 0},
		{formOf(madeOf(1, 1<<24-100)), 0},
	} {
		d := diskWith(t, 0, c.file)
		if j := opened(t, d, 0); j.Len() != c.records || d.Size(0) != c.records*len(formOf("")) {
			t.Errorf("%d records, %d bytes", j.Len(), d.Size(0))
		}
	}
}

// P3.2

func TestAppend(t *testing.T) {
	d := disk.New()
	j := opened(t, d, 2)
	l := []string{"ab", "", "1:a,97;", "\x00\xff", "ab", madeOf('z', 20000), withSum(t, 6000, 2147483648), ""}
	for i, r := range l {
		expect(t, "Append", j.Append(r), api.OK)
		holds(t, j, l[:i+1]...)
		if got, want := contents(t, d, 2), formsOf(l[:i+1]...); got != want {
			t.Errorf("the file: %.200q, not %.200q", got, want)
		}
	}
	for f := range 16 {
		if f != 2 && d.Size(f) != 0 {
			t.Error("file", f, "was written")
		}
	}
	j = opened(t, d, 2)
	appended(t, j, "more")
	l = append(l, "more")
	holds(t, j, l...)
	if got, want := contents(t, d, 2), formsOf(l...); got != want {
		t.Errorf("appended after it was opened: %.200q, not %.200q", got, want)
	}
}

func TestAppendTooLongARecord(t *testing.T) {
	d := disk.New()
	j := opened(t, d, 0)
	appended(t, j, "a")
	d.Arm(1, nil)
	for _, n := range []int{20001, 20002, 1 << 20, 1 << 24} {
		expect(t, "Append", j.Append(madeOf('x', n)), api.ErrRange)
		holds(t, j, "a")
	}
	d.Arm(0, nil) // none of these calls reached the disk
	if got := contents(t, d, 0); got != formOf("a") {
		t.Errorf("the file: %.200q", got)
	}
	appended(t, j, madeOf('x', 20000))
	expect(t, "Sync", j.Sync(), api.OK)
	holds(t, j, "a", madeOf('x', 20000))
}

// filled returns a journal whose list has a length of Max - left, and the list; left is at most 7000.
func filled(t *testing.T, d *disk.Disk, left int) (*Journal, []string) {
	t.Helper()
	j := opened(t, d, 0)
	l := append(slices.Repeat([]string{madeOf(0, 20000)}, 52), madeOf(0, 8100-left))
	appended(t, j, l...)
	if d.Size(0) != Max-left {
		t.Fatal("size", d.Size(0))
	}
	return j, l
}

func TestAppendUpToMax(t *testing.T) {
	if Max != 1048576 {
		t.Error("Max is", Max)
	}
	for left := range 12 {
		d := disk.New()
		j, l := filled(t, d, left)
		d.Arm(1, nil)
		for _, r := range []string{"", "\x00", "a", "\x00\x00", "ab", madeOf('x', 20000)} {
			if len(formOf(r)) > left {
				expect(t, "Append", j.Append(r), api.ErrFull)
			}
		}
		expect(t, "Append", j.Append(madeOf('x', 20001)), api.ErrRange)
		d.Arm(0, nil) // none of these calls reached the disk
		holds(t, j, l...)
		if left >= 5 {
			r := madeOf(0, left-5) // fills the list exactly, with a form of left bytes
			appended(t, j, r)
			l = append(l, r)
			expect(t, "Append", j.Append(""), api.ErrFull)
		}
		expect(t, "Sync", j.Sync(), api.OK)
		holds(t, opened(t, d, 0), l...)
	}
}

// The length counts also what was there when the journal was opened.
func TestMaxAfterOpen(t *testing.T) {
	d := disk.New()
	_, l := filled(t, d, 7)
	expect(t, "Write", d.Write(0, d.Size(0), "torn torn torn"), api.OK)
	j := opened(t, d, 0)
	expect(t, "Append", j.Append("a\x00\x00"), api.ErrFull)
	appended(t, j, "\x00\x00")
	expect(t, "Append", j.Append(""), api.ErrFull)
	holds(t, j, append(l, "\x00\x00")...)
}

// afterAnError checks that a journal is in the state after an error of the disk.
func afterAnError(t *testing.T, j *Journal, want ...string) {
	t.Helper()
	for range 2 {
		expect(t, "Append", j.Append("x"), api.ErrState)
		expect(t, "Append of too long a record", j.Append(madeOf('x', 20001)), api.ErrState)
		expect(t, "Sync", j.Sync(), api.ErrState)
		holds(t, j, want...)
	}
}

func TestAppendAfterAnError(t *testing.T) {
	for _, keep := range [][]int{nil, {1}} {
		d := disk.New()
		j := opened(t, d, 0)
		appended(t, j, "a")
		d.Arm(1, keep)
		expect(t, "Append", j.Append("b"), api.ErrDown)
		afterAnError(t, j, "a")
		d.Start()
		if got, want := contents(t, d, 0), []string{"", formsOf("a", "b")}[len(keep)]; got != want {
			t.Errorf("the file: %q, not %q", got, want)
		}
	}
	d := disk.New()
	j := opened(t, d, 0)
	d.Crash(nil)
	expect(t, "Append", j.Append(madeOf('x', 20001)), api.ErrRange)
	expect(t, "Append", j.Append("a"), api.ErrDown)
	afterAnError(t, j)
}

func TestAppendToAFullJournalAfterAnError(t *testing.T) {
	d := disk.New()
	j, l := filled(t, d, 2)
	d.Crash(nil)
	expect(t, "Append", j.Append(""), api.ErrFull) // before the error of the disk
	expect(t, "Sync", j.Sync(), api.ErrDown)
	expect(t, "Append", j.Append(""), api.ErrState)
	afterAnError(t, j, l...)
}

// An Append is one call of Write.
func TestWhatAppendPerforms(t *testing.T) {
	for n := 1; n <= 5; n++ {
		d := disk.New()
		j := opened(t, d, 0)
		d.Arm(n, nil)
		for i := 1; i < n; i++ {
			expect(t, "Append", j.Append(madeOf('a', 100*i)), api.OK)
		}
		expect(t, "the armed call", j.Append("a"), api.ErrDown)
		if j.Len() != n-1 {
			t.Error(j.Len(), "records, not", n-1)
		}
	}
}

// P3.3

func TestSync(t *testing.T) {
	d := disk.New()
	j, other := opened(t, d, 5), opened(t, d, 0)
	appended(t, j, "a", "b")
	appended(t, other, "c")
	expect(t, "Sync", j.Sync(), api.OK)
	expect(t, "Sync", j.Sync(), api.OK)
	appended(t, j, "d")
	holds(t, j, "a", "b", "d")
	d.Crash(nil)
	expect(t, "Sync", j.Sync(), api.ErrDown)
	afterAnError(t, j, "a", "b", "d")
	expect(t, "Sync of the other one", other.Sync(), api.ErrDown)
	d.Start()
	holds(t, opened(t, d, 5), "a", "b")
	holds(t, opened(t, d, 0))
}

func TestSyncThatIsLost(t *testing.T) {
	d := disk.New()
	j, other := opened(t, d, 0), opened(t, d, 1)
	appended(t, j, "a")
	d.Lose(3)
	expect(t, "Sync", j.Sync(), api.ErrLost)
	afterAnError(t, j, "a")
	appended(t, other, "b")
	expect(t, "Sync of the other one", other.Sync(), api.ErrLost)
	// The calls that returned ErrState did not reach the disk: one lost sync of three is due.
	refused(t, d, 0, api.ErrLost)
	j = opened(t, d, 0)
	appended(t, j, "c")
	expect(t, "Sync", j.Sync(), api.OK)
	d.Crash(nil)
	d.Start()
	holds(t, opened(t, d, 0), "a", "c")
	holds(t, opened(t, d, 1))
}

func TestWhatSyncPerforms(t *testing.T) {
	d := disk.New()
	j := opened(t, d, 0)
	d.Arm(3, []int{1})
	expect(t, "Sync", j.Sync(), api.OK)
	appended(t, j, "a")
	expect(t, "the armed call", j.Sync(), api.ErrDown)
	afterAnError(t, j, "a")
	d.Start()
	holds(t, opened(t, d, 0), "a")
}

// P3.4: holds looks at Len, Get and All; afterAnError does so after an error

func TestLenGetAndAll(t *testing.T) {
	j := opened(t, diskWith(t, 0, formsOf("b", "", "a")), 0)
	holds(t, j, "b", "", "a")
	appended(t, j, "", "c")
	holds(t, j, "b", "", "a", "", "c")
	expect(t, "Append", j.Append(madeOf('x', 20001)), api.ErrRange)
	holds(t, j, "b", "", "a", "", "c")
	holds(t, opened(t, disk.New(), 0))
}

func TestJournalsAreSeparate(t *testing.T) {
	d := disk.New()
	var l []*Journal
	for f := range 16 {
		l = append(l, opened(t, d, f))
	}
	for n := range 3 {
		for f, j := range l {
			appended(t, j, strconv.Itoa(f*10+n))
		}
	}
	c := opened(t, d.Copy(), 0)
	appended(t, c, "in the copy")
	for f, j := range l {
		want := []string{strconv.Itoa(f * 10), strconv.Itoa(f*10 + 1), strconv.Itoa(f*10 + 2)}
		holds(t, j, want...)
		holds(t, opened(t, d, f), want...)
	}
}

// P3.5

func TestMemory(t *testing.T) {
	d := disk.New()
	j := opened(t, d, 0)
	appended(t, j, "a", "b", "c")
	first, second := j.All(), j.All()
	first[0] = "x"
	first = append(first[:1], "y", "z", "w")
	if !slices.Equal(second, []string{"a", "b", "c"}) {
		t.Errorf("two lists share memory: %q", second)
	}
	holds(t, j, "a", "b", "c")
	appended(t, j, "d")
	second = append(second, "e")
	holds(t, j, "a", "b", "c", "d")
	if !slices.Equal(first, []string{"x", "y", "z", "w"}) || !slices.Equal(second, []string{"a", "b", "c", "e"}) {
		t.Errorf("a list was changed: %q, %q", first, second)
	}
	j = opened(t, d, 0)
	l := j.All()
	clear(l)
	holds(t, j, "a", "b", "c", "d")
}

// A record that is a part of a long text does not keep it alive.
func TestRecordsAreFresh(t *testing.T) {
	text := madeOf('t', 1000)
	j := opened(t, disk.New(), 0)
	appended(t, j, text[10:20])
	from, at := uintptr(unsafe.Pointer(unsafe.StringData(text))), uintptr(unsafe.Pointer(unsafe.StringData(j.Get(0))))
	if from <= at && at < from+1000 {
		t.Error("a record shares memory with the argument")
	}
}

// P3.6

// history is what a journal has gone through: what has to be found again after a crash.
type history struct {
	records []string // those that were there, and the one whose Append returned an error of the disk
	safe    int      // how many of them were there when Open or Sync last returned OK
}

// agrees checks what is found after a crash.
func (h history) agrees(t *testing.T, found []string) {
	t.Helper()
	if len(found) < h.safe || len(found) > len(h.records) || !slices.Equal(found, h.records[:len(found)]) {
		t.Fatalf("found %.300q, of %.300q, of which %d were safe", found, h.records, h.safe)
	}
}

// isOfDisk reports whether an error of Append or Sync is one of the disk.
func isOfDisk(err api.Errno) bool {
	return err == api.ErrDown || err == api.ErrLost
}

// play opens a journal and appends records, with a sync after each one whose index is in syncs, up to an error.
func play(t *testing.T, d *disk.Disk, h *history, records []string, syncs func(i int) bool) {
	t.Helper()
	j, err := Open(d, 0)
	if err != api.OK {
		if !isOfDisk(err) {
			t.Fatal("Open: error", err)
		}
		return
	}
	h.agrees(t, j.All())
	h.records = j.All()
	h.safe = j.Len()
	for i, r := range records {
		err := j.Append(r)
		if err == api.OK || isOfDisk(err) {
			h.records = append(h.records, r)
		}
		if err == api.OK && syncs(i) {
			if err = j.Sync(); err == api.OK {
				h.safe = j.Len()
			}
		}
		if err != api.OK {
			if !isOfDisk(err) {
				t.Fatal("error", err)
			}
			return
		}
	}
}

// reopened crashes a disk, if it is not down yet, opens the journal, and checks it.
func reopened(t *testing.T, d *disk.Disk, h history, keep []int) {
	t.Helper()
	d.Crash(keep)
	d.Start()
	d.Lose(0)
	d.Arm(0, nil)
	j := opened(t, d, 0)
	h.agrees(t, j.All())
	if got, want := contents(t, d, 0), formsOf(j.All()...); got != want {
		t.Fatalf("the file holds %.300q, not %.300q", got, want)
	}
	d.Crash(nil) // Open has made it durable
	d.Start()
	holds(t, opened(t, d, 0), j.All()...)
}

func TestEveryCrashOfSomeHistories(t *testing.T) {
	for _, records := range [][]string{
		{"", "a", "b", "ab"},
		{madeOf('x', 200), "", madeOf('y', 120)},
		{madeOf(1, 60), madeOf(0xff, 130), madeOf(0, 100)},
		{formsOf("a", "b", "c"), madeOf(';', 61), strings.Repeat("0:,0;", 40), "z"},
	} {
		for syncs := range 1 << len(records) {
			for n := 1; n <= 12; n++ {
				for set := range 1 << 7 {
					var keep []int
					for i := range 7 {
						keep = append(keep, set>>i&1)
					}
					d, h := disk.New(), history{}
					d.Arm(n, keep)
					play(t, d, &h, records, func(i int) bool { return syncs>>i&1 == 1 })
					down := d.Down()
					reopened(t, d, h, keep)
					if !down && n <= len(records) {
						t.Fatal("the machine did not go down")
					}
				}
			}
		}
	}
}

func TestManyCrashes(t *testing.T) {
	r := rand.New(rand.NewSource(6))
	someKeep := func() []int {
		keep := make([]int, r.Intn(8))
		for i := range keep {
			keep[i] = r.Intn(2)
		}
		return keep
	}
	for range 400 {
		d, h := disk.New(), history{}
		for range 8 {
			var records []string
			for range r.Intn(6) {
				records = append(records, someRecord(r, []int{3, 80, 300, 4000}[r.Intn(4)]))
			}
			d.Arm(r.Intn(10), someKeep())
			if r.Intn(3) == 0 {
				d.Lose(r.Intn(3))
			}
			play(t, d, &h, records, func(i int) bool { return r.Intn(3) == 0 })
			if r.Intn(4) == 0 {
				d.Crash(someKeep())
			}
			if r.Intn(2) == 0 { // lost syncs stay due, and are seen by the next Open
				reopened(t, d.Copy(), h, someKeep())
			}
			d.Start()
		}
		reopened(t, d, h, someKeep())
	}
}

// The longest record that the theorem speaks of is found out whichever of its sectors are missing.
func TestLongRecordsThatAreTorn(t *testing.T) {
	for _, long := range []string{madeOf(0xff, 4000), madeOf(1, 4000), madeOf('0', 4000), madeOf(0, 3999) + "\x01", "\x01" + madeOf(0, 3999)} {
		d := disk.New()
		j := opened(t, d, 0)
		appended(t, j, "before")
		expect(t, "Sync", j.Sync(), api.OK)
		appended(t, j, long, "after")
		sectors := (d.Size(0) + 63) / 64
		for missing := range sectors {
			for _, also := range []int{missing, sectors - 1, 0, missing / 2} {
				keep := slices.Repeat([]int{1}, sectors)
				keep[missing], keep[also] = 0, 0
				h := history{[]string{"before", long, "after"}, 1}
				reopened(t, d.Copy(), h, keep)
			}
		}
		reopened(t, d, history{[]string{"before", long, "after"}, 3}, []int{1})
	}
}

// Every set of bytes that become 0 is found out; so is every end that is missing.
func TestBytesThatBecome0(t *testing.T) {
	l := []string{"ab", "0"}
	file := formsOf(l...)
	for set := range 1 << len(file) {
		b := []byte(file)
		whole := len(l)
		for i := range b {
			if set>>i&1 == 1 {
				b[i] = 0
				if i < len(formOf(l[0])) {
					whole = 0
				}
				whole = min(whole, 1)
			}
		}
		if got, _ := recordsOf(string(b)); !slices.Equal(got, l[:whole]) {
			t.Fatalf("%q: %q", b, got)
		}
	}
}

// P3.7

func TestOpenAgain(t *testing.T) {
	for _, file := range []string{"", "x", formsOf("a", "b"), formsOf("a", "b") + "x", formsOf("a", "", madeOf('x', 20000)) + madeOf(0, 99)} {
		d := diskWith(t, 0, file)
		want := opened(t, d, 0).All()
		first := contents(t, d, 0)
		for range 3 {
			holds(t, opened(t, d, 0), want...)
			if got := contents(t, d, 0); got != first {
				t.Errorf("%.200q, not %.200q", got, first)
			}
			d.Crash(nil)
			d.Start()
		}
	}
}

func TestRecordsOfWhatContinues(t *testing.T) {
	l := []string{"ab", "", "1:a,97;", madeOf('x', 70), "\x00"}
	file := formsOf(l...)
	for n := range len(file) + 1 {
		whole, length := 0, 0
		for whole < len(l) && length+len(formOf(l[whole])) <= n {
			length += len(formOf(l[whole]))
			whole++
		}
		d := diskWith(t, 0, file[:n])
		holds(t, opened(t, d, 0), l[:whole]...)
		if d.Size(0) != length {
			t.Errorf("%d bytes of the file: truncated to %d bytes, not %d", n, d.Size(0), length)
		}
	}
	r := rand.New(rand.NewSource(7))
	for range 2000 {
		s, tail := someFile(r), someFile(r)
		short, _ := recordsOf(s)
		long, _ := recordsOf(s + tail)
		if len(long) < len(short) || !slices.Equal(long[:len(short)], short) {
			t.Fatalf("%q has %q, and with %q it has %q", s, short, tail, long)
		}
	}
}

// someFile returns some records, the last of which may be cut off.
func someFile(r *rand.Rand) string {
	var l []string
	for range r.Intn(4) {
		l = append(l, someRecord(r, 5))
	}
	s := formsOf(l...)
	return s[:len(s)-min(len(s), r.Intn(3)*r.Intn(8))]
}

// The examples of the chapter.
func TestExamples(t *testing.T) {
	if Sum("") != 0 || Sum("a") != 97 || Sum("ab") != 293 {
		t.Error("sums:", Sum(""), Sum("a"), Sum("ab"))
	}
	d := disk.New()
	j := opened(t, d, 0)
	appended(t, j, "ab", "")
	if got := contents(t, d, 0); got != "2:ab,293;0:,0;" {
		t.Errorf("the file: %q", got)
	}
	d = diskWith(t, 0, "2:ab,293;1:a,98;")
	holds(t, opened(t, d, 0), "ab")
	if d.Size(0) != 9 {
		t.Error("truncated to", d.Size(0), "bytes")
	}
}
