package wire

import (
	"math"
	"slices"
	"strconv"
	"strings"
	"testing"
	"unsafe"
)

// P1.1

func TestWrite(t *testing.T) {
	for _, c := range []struct{ name, got, want string }{
		{"Num 0", Num(0), "0;"},
		{"Num 7", Num(7), "7;"},
		{"Num 10", Num(10), "10;"},
		{"Num 300", Num(300), "300;"},
		{"Num greatest", Num(math.MaxInt), strconv.Itoa(math.MaxInt) + ";"},
		{"Num -1", Num(-1), ""},
		{"Num least", Num(math.MinInt), ""},
		{"Int 0", Int(0), "0;"},
		{"Int 7", Int(7), "7;"},
		{"Int -7", Int(-7), "-7;"},
		{"Int -10", Int(-10), "-10;"},
		{"Int greatest", Int(math.MaxInt), strconv.Itoa(math.MaxInt) + ";"},
		{"Int least", Int(math.MinInt), strconv.Itoa(math.MinInt) + ";"},
		{"Text empty", Text(""), "0:,"},
		{"Text", Text("a,b"), "3:a,b,"},
		{"Text counts bytes", Text("\u00e9\u20ac\xff"), "6:\u00e9\u20ac\xff,"},
		{"Text zero byte", Text("\x00"), "1:\x00,"},
		{"Text of ten bytes", Text("0123456789"), "10:0123456789,"},
		{"Nums nil", Nums(nil), "0[]"},
		{"Nums empty", Nums([]int{}), "0[]"},
		{"Nums", Nums([]int{1, -1}), "2[1;-1;]"},
		{"Nums keeps the order", Nums([]int{3, 1, 2, 1}), "4[3;1;2;1;]"},
		{"Texts nil", Texts(nil), "0[]"},
		{"Texts empty", Texts([]string{}), "0[]"},
		{"Texts one empty", Texts([]string{""}), "1[0:,]"},
		{"Texts", Texts([]string{"b", "", "a]"}), "3[1:b,0:,2:a],]"},
	} {
		if c.got != c.want {
			t.Errorf("%s: %q, not %q", c.name, c.got, c.want)
		}
	}
}

func TestWriteLongList(t *testing.T) {
	l := make([]int, 1234)
	if want := "1234[" + strings.Repeat("0;", 1234) + "]"; Nums(l) != want {
		t.Error("a long list")
	}
}

// P1.2

// value is what one of the reading methods returned, as text.
type value struct {
	text string
	zero bool
}

// kind is one of the five kinds of values: how to read one, and the encoding of what was read.
type kind struct {
	name string
	read func(r *Reader) value
}

func kinds() []kind {
	return []kind{
		{"Num", func(r *Reader) value { n := r.Num(); return value{Num(n), n == 0} }},
		{"Int", func(r *Reader) value { n := r.Int(); return value{Int(n), n == 0} }},
		{"Text", func(r *Reader) value { s := r.Text(); return value{Text(s), s == ""} }},
		{"Nums", func(r *Reader) value { l := r.Nums(); return value{Nums(l), len(l) == 0} }},
		{"Texts", func(r *Reader) value { l := r.Texts(); return value{Texts(l), len(l) == 0} }},
	}
}

func kindNamed(t *testing.T, name string) kind {
	for _, k := range kinds() {
		if k.name == name {
			return k
		}
	}
	t.Fatal("no kind", name)
	return kind{}
}

// checkFailed checks that the reader has failed, and that all later calls return zero values.
func checkFailed(t *testing.T, r *Reader, what string) {
	t.Helper()
	for range 2 {
		if r.Left() != 0 || r.Done() {
			t.Errorf("%s: %d bytes left, done %v", what, r.Left(), r.Done())
		}
		for _, k := range kinds() {
			if !k.read(r).zero {
				t.Errorf("%s: %s after a failure", what, k.name)
			}
		}
		if s := r.Rest(); s != "" {
			t.Errorf("%s: rest %q after a failure", what, s)
		}
	}
}

func TestReadOneAfterTheOther(t *testing.T) {
	s := "12;-12;0;3:a,b,2[1;-1;]0[]2[0:,1:x,]0[]tail;"
	r := Open(s)
	check := func(ok bool, after string) {
		t.Helper()
		if want := len(s) - strings.Index(s, after) - len(after); !ok || r.Left() != want || r.Done() {
			t.Errorf("%v, %d left, not %d", ok, r.Left(), want)
		}
	}
	check(r.Num() == 12, "12;")
	check(r.Int() == -12, "-12;")
	check(r.Int() == 0, "-12;0;")
	check(r.Text() == "a,b", "3:a,b,")
	check(slices.Equal(r.Nums(), []int{1, -1}), "2[1;-1;]")
	check(len(r.Nums()) == 0, "-1;]0[]")
	check(slices.Equal(r.Texts(), []string{"", "x"}), "1:x,]")
	check(len(r.Texts()) == 0, "x,]0[]")
	if rest := r.Rest(); rest != "tail;" || r.Left() != 0 || !r.Done() {
		t.Errorf("rest %q, %d left", rest, r.Left())
	}
	if rest := r.Rest(); rest != "" || !r.Done() {
		t.Errorf("rest %q at the end", rest)
	}
	if r.Num() != 0 {
		t.Error("a number at the end")
	}
	checkFailed(t, r, "at the end")
}

func TestReadNothing(t *testing.T) {
	if r := Open(""); !r.Done() || r.Left() != 0 || r.Rest() != "" || !r.Done() {
		t.Error("an empty text is done")
	}
	for _, k := range kinds() {
		r := Open("")
		if !k.read(r).zero {
			t.Error(k.name)
		}
		checkFailed(t, r, k.name)
	}
}

func TestReadLimits(t *testing.T) {
	most, least := strconv.Itoa(math.MaxInt)+";", strconv.Itoa(math.MinInt)+";"
	if r := Open(most + most + least); r.Num() != math.MaxInt || r.Int() != math.MaxInt || r.Int() != math.MinInt || !r.Done() {
		t.Error("the greatest and the least int")
	}
}

func TestReadWhatIsNoEncoding(t *testing.T) {
	over := strconv.FormatUint(uint64(math.MaxInt)+1, 10)
	under := strconv.FormatUint(uint64(math.MaxInt)+2, 10)
	huge := strconv.Itoa(math.MaxInt)
	digits := []string{"", ";", "-", "-;", "--1;", "+1;", " 1;", "1", "1 ;", "1,", "1:", "1[", "1]", "00;", "01;", "007;", "1-;", "1a;", "a;", "/;", ":;", over + ";", "18446744073709551616;", "18446744073709551617;", "36893488147419103233;", "99999999999999999999999;", strings.Repeat("1", 1000) + ";", "\xd9\xa1;"}
	for name, texts := range map[string][]string{
		"Num":   append([]string{"-0;", "-1;", "-" + over + ";", "3:a,b,"}, digits...),
		"Int":   append([]string{"-0;", "-00;", "-01;", "-1", "-1,", "- 1;", "-" + under + ";", "-18446744073709551617;", "0[]"}, digits...),
		"Text":  {"", ":", ",", "0", "0,", "0:", "0:;", "0;", "1:", "1:a", "1:,", "1:a;", "1:ab", "1:ab,", "2:a,", "-1:a,", "-0:,", "01:a,", "00:,", ":a,", "1a,", "1;a,", "1[a]", huge + ":a,", over + ":,", "18446744073709551616:,", "18446744073709551617:a,"},
		"Nums":  {"", "[", "[]", "0", "0]", "0[", "0[,", "00[]", "-0[]", "0;", "0:,", "1[]", "1[;]", "1[1]", "1[1;", "1[1;,", "1[1;2;]", "1[01;]", "1[-0;]", "2[1;]", "2[1;,2;]", "-1[]", "1[1:a,]", "0[1;]", huge + "[", huge + "[1;]", over + "[]", "18446744073709551616[]", "18446744073709551617[1;]"},
		"Texts": {"", "[]", "0[", "1[]", "1[1;]", "1[1:a]", "1[1:a,", "1[1:a,,", "1[1:a,1:b,]", "2[1:a,]", "01[1:a,]", "-1[]", "0[0:,]", huge + "[0:,]", over + "[]", "18446744073709551617[0:,]"},
	} {
		k := kindNamed(t, name)
		for _, s := range texts {
			for _, tail := range []string{"", "x;"} {
				r := Open(s + tail)
				if !k.read(r).zero {
					t.Errorf("%s of %q: not zero", name, s+tail)
				}
				checkFailed(t, r, name+" of "+s+tail)
			}
		}
	}
}

func TestFailureInTheMiddle(t *testing.T) {
	r := Open("1;x2;")
	if r.Num() != 1 || r.Left() != 3 || r.Int() != 0 {
		t.Error("before the failure")
	}
	checkFailed(t, r, "in the middle")
	r = Open("3[1;2;x;]7;")
	if l := r.Nums(); len(l) != 0 {
		t.Error("a part of a list:", l)
	}
	checkFailed(t, r, "in a list of ints")
	r = Open("2[1:a,1:b;]7;")
	if l := r.Texts(); len(l) != 0 {
		t.Error("a part of a list:", l)
	}
	checkFailed(t, r, "in a list of strings")
}

func TestReadersAreIndependent(t *testing.T) {
	a, b := Open("1;2;"), Open("1;2;")
	if a.Num() != 1 || a.Num() != 2 || a.Num() != 0 || b.Num() != 1 || b.Left() != 2 || b.Num() != 2 || !b.Done() || a.Done() {
		t.Error("two readers of one text")
	}
}

// P1.3

func TestMemory(t *testing.T) {
	nums, texts := []int{3, -1, 2}, []string{"b", "", "a"}
	coded := Nums(nums[:2]) + Texts(texts[:2])
	if !slices.Equal(nums, []int{3, -1, 2}) || !slices.Equal(texts, []string{"b", "", "a"}) {
		t.Error("an argument was modified")
	}
	read := func() ([]int, []string) {
		r := Open(coded + coded)
		n, s := r.Nums(), r.Texts()
		n2, s2 := r.Nums(), r.Texts()
		n[0], s[0] = 9, "9"
		n, s = append(n, 8), append(s, "8")
		if !slices.Equal(n2, []int{3, -1}) || !slices.Equal(s2, []string{"b", ""}) {
			t.Error("results share memory")
		}
		return n2, s2
	}
	n, s := read()
	n[0], s[0] = 7, "7"
	read()
}

func TestStringsAreFresh(t *testing.T) {
	coded := Text("some text") + Texts([]string{"more text"}) + "the rest"
	from := uintptr(unsafe.Pointer(unsafe.StringData(coded)))
	within := func(s string) bool {
		at := uintptr(unsafe.Pointer(unsafe.StringData(s)))
		return from <= at && at < from+uintptr(len(coded))
	}
	r := Open(coded)
	a, b, c := r.Text(), r.Texts(), r.Rest()
	if a != "some text" || b[0] != "more text" || c != "the rest" {
		t.Error(a, b, c)
	}
	if within(a) || within(b[0]) || within(c) {
		t.Error("a result shares memory with the text that is read")
	}
}

// P1.4

func someInts() []int {
	l := []int{0, math.MaxInt, math.MinInt, math.MaxInt - 1, math.MinInt + 1}
	for p := 1; p <= math.MaxInt/10; p *= 10 {
		l = append(l, p-1, p, p+1, 1-p, -p, -p-1, 7*p)
	}
	for i := range 63 {
		l = append(l, 1<<i, 1<<i-1, -1<<i, -1<<i-1)
	}
	return l
}

func someTexts() []string {
	l := []string{"", "a", ",", ";", ":", "1:a,", "0[]", "-7;", "\x00\xff", "\u20ac", strings.Repeat("x", 9), strings.Repeat("x", 10), strings.Repeat(",", 1001)}
	var all []byte
	for i := range 256 {
		all = append(all, byte(i))
	}
	return append(l, string(all))
}

func TestReadingInvertsWriting(t *testing.T) {
	ints, texts := someInts(), someTexts()
	for _, n := range ints {
		if r := Open(Int(n)); r.Int() != n || !r.Done() {
			t.Error("Int", n)
		}
		if r := Open(Num(n)); n >= 0 && (r.Num() != n || !r.Done()) {
			t.Error("Num", n)
		}
	}
	for _, s := range texts {
		if r := Open(Text(s)); r.Text() != s || !r.Done() {
			t.Errorf("Text %q", s)
		}
	}
	for i := range ints {
		if r := Open(Nums(ints[:i])); !slices.Equal(r.Nums(), ints[:i]) || !r.Done() {
			t.Error("Nums", i)
		}
	}
	for i := range texts {
		if r := Open(Texts(texts[i:])); !slices.Equal(r.Texts(), texts[i:]) || !r.Done() {
			t.Error("Texts", i)
		}
	}
}

// eachText calls f with every text of at most n of the letters.
func eachText(letters string, n int, f func(s string)) {
	var add func(b []byte, n int)
	add = func(b []byte, n int) {
		f(string(b))
		for i := 0; n > 0 && i < len(letters); i++ {
			add(append(b, letters[i]), n-1)
		}
	}
	add(nil, n)
}

// What is read has exactly the bytes that were read as its encoding, in all short texts.
func TestWhatIsReadHasOneEncoding(t *testing.T) {
	count := make(map[string]int)
	eachText("-012;:,[]", 6, func(s string) {
		for _, k := range kinds() {
			r := Open(s)
			v := k.read(r)
			left := r.Left()
			if rest := r.Rest(); !r.Done() {
				if !v.zero || left != 0 || rest != "" {
					t.Fatalf("%s of %q failed with a result", k.name, s)
				}
			} else if count[k.name]++; v.text+rest != s || left != len(rest) {
				t.Fatalf("%s of %q: %q and %q", k.name, s, v.text, rest)
			}
		}
	})
	for _, k := range kinds() {
		if count[k.name] == 0 {
			t.Error("never read:", k.name)
		}
	}
}

func TestNoEncodingIsAPrefixOfAnother(t *testing.T) {
	ints, texts := someInts(), someTexts()
	coded := make([][]string, 5)
	add := func(kind int, s string) {
		if s != "" {
			coded[kind] = append(coded[kind], s)
		}
	}
	for i, n := range ints {
		add(0, Num(n))
		add(1, Int(n))
		add(3, Nums(ints[:i]))
		add(3, Nums(ints[i:]))
	}
	for i, s := range texts {
		add(2, Text(s))
		add(4, Texts(texts[:i]))
		add(4, Texts(texts[i:]))
	}
	for kind, l := range coded {
		slices.Sort(l)
		l = slices.Compact(l)
		for i := 1; i < len(l); i++ { // sorted: what begins others begins the next one
			if strings.HasPrefix(l[i], l[i-1]) {
				t.Errorf("kind %d: %q begins %q", kind, l[i-1], l[i])
			}
		}
	}
}

// P1.5

func TestEncodingsAreNested(t *testing.T) {
	inner := Nums([]int{1, -2}) + Text("a,]") + Texts([]string{"0[]", ",", ""})
	outer := Text(inner) + Texts([]string{inner, Text(inner), ""}) + Int(-3)
	r := Open(outer + outer)
	for range 2 {
		first, l := r.Text(), r.Texts()
		if len(l) != 3 || l[2] != "" || r.Int() != -3 {
			t.Fatal("outer", l)
		}
		deep := Open(l[1])
		for i, s := range []string{first, l[0], deep.Text()} {
			in := Open(s)
			if !slices.Equal(in.Nums(), []int{1, -2}) || in.Text() != "a,]" || !slices.Equal(in.Texts(), []string{"0[]", ",", ""}) || !in.Done() {
				t.Error("inner", i)
			}
		}
		if !deep.Done() {
			t.Error("deep")
		}
	}
	if !r.Done() {
		t.Error("not done")
	}
}

func TestDeepNesting(t *testing.T) {
	s := ""
	for range 200 {
		s = Text(s)
	}
	for range 200 {
		r := Open(s)
		s = r.Text()
		if !r.Done() {
			t.Fatal("nesting")
		}
	}
	if s != "" {
		t.Error(s)
	}
}

func TestAnyBytes(t *testing.T) {
	for a := range 256 {
		for b := range 256 {
			s := string([]byte{byte(a), byte(b)})
			r := Open(Text(s) + Texts([]string{s, s}) + s)
			if r.Text() != s || !slices.Equal(r.Texts(), []string{s, s}) || r.Rest() != s || !r.Done() {
				t.Fatalf("%q", s)
			}
		}
	}
}

// A claimed length that is far greater than the text costs no memory.
func TestClaimedLength(t *testing.T) {
	s := strconv.Itoa(math.MaxInt) + "[" + strings.Repeat("1;", 10)
	most := testing.AllocsPerRun(10, func() {
		if len(Open(s).Nums()) != 0 {
			t.Error("a list")
		}
	})
	if most > 20 {
		t.Error("allocations:", most)
	}
}
