package seal

import (
	"math"
	"math/rand"
	"slices"
	"strings"
	"testing"

	"tonneau/api"
)

// notKeys are numbers that are not keys; some are keys where an int is cut.
var notKeys = []int{-1, -2, -4999, -5000, 5000, 5001, 1 << 16, 1 << 31, 1 << 32, 1<<32 + 3, -1 << 32, math.MinInt, math.MinInt + 3, math.MaxInt}

// texts are texts that differ little from one another, of any bytes.
var texts = []string{
	"", "a", "A", "b", "aa", "a ", " a", "a\x00", "\x00a", "\x00", "\x00\x00", "\xff", "\xfe", "\xff\xff", "\xef\xbf\xbd", "é", "e\u0301", "\n", "0", "1", "3:a", "0,", strings.Repeat("x", 300), strings.Repeat("x", 299) + "y", strings.Repeat("x", 301),
}

// keys are keys at the bounds, and some in between.
var keys = []int{0, 1, 2, 3, 255, 256, 2500, 4998, 4999}

// model is a ring, word for word: a list that is searched from its beginning.
type model struct{ entries []api.Sealed }

func (m *model) sign(key int, text string) api.Signed {
	if key < 0 || key > 4999 {
		return api.Signed{}
	}
	entry := api.Sealed{Key: key, Text: text}
	if !slices.Contains(m.entries, entry) {
		m.entries = append(m.entries, entry)
	}
	return api.Signed{Key: key, Text: text, Mark: slices.Index(m.entries, entry)}
}

func (m *model) valid(s api.Signed) bool {
	return s.Mark >= 0 && s.Mark < len(m.entries) && m.entries[s.Mark] == api.Sealed{Key: s.Key, Text: s.Text}
}

// product returns an entry for each key and each text.
func product() []api.Sealed {
	var l []api.Sealed
	for _, key := range keys {
		for _, text := range texts {
			l = append(l, api.Sealed{Key: key, Text: text})
		}
	}
	return l
}

// signed returns the signatures of entries that are in this order in a ring.
func signed(l []api.Sealed) []api.Signed {
	out := make([]api.Signed, len(l))
	for i, e := range l {
		out[i] = api.Signed{Key: e.Key, Text: e.Text, Mark: i}
	}
	return out
}

// open returns a ring with entries, and fails if there is none.
func open(t *testing.T, l []api.Sealed) *Ring {
	t.Helper()
	r, err := Open(l)
	if r == nil || err != api.OK {
		t.Fatal(r, err)
	}
	return r
}

// mustHold fails if a ring does not have just these entries, in this order, with their signatures.
func mustHold(t *testing.T, r *Ring, l []api.Sealed) {
	t.Helper()
	if got := r.All(); !slices.Equal(got, l) {
		t.Errorf("the ring has %d entries, not %d, or others: %v", len(got), len(l), got)
	}
	for _, s := range signed(l) {
		if !r.Valid(s) {
			t.Errorf("%v does not hold", s)
		}
	}
}

// mustRefuse fails if entries are not refused with an error.
func mustRefuse(t *testing.T, l []api.Sealed, want api.Errno) {
	t.Helper()
	if r, err := Open(l); r != nil || err != want {
		t.Errorf("Open(%v) is %v, %d, not the error %d", l, r != nil, err, want)
	}
}

// P8.1

func TestNew(t *testing.T) {
	r, other := New(), New()
	mustHold(t, r, nil)
	for _, e := range product() {
		if r.Valid(api.Signed{Key: e.Key, Text: e.Text}) {
			t.Errorf("%v holds", e)
		}
	}
	r.Sign(3, "a")
	mustHold(t, r, []api.Sealed{{Key: 3, Text: "a"}})
	mustHold(t, other, nil)
	mustHold(t, New(), nil)
}

func TestOpen(t *testing.T) {
	mustHold(t, open(t, nil), nil)
	mustHold(t, open(t, []api.Sealed{}), nil)
	mustHold(t, open(t, []api.Sealed{{}}), []api.Sealed{{}})
	mustHold(t, open(t, product()), product())
	r := rand.New(rand.NewSource(81))
	for range 20 {
		l := product()
		r.Shuffle(len(l), func(i, j int) { l[i], l[j] = l[j], l[i] })
		l = l[:r.Intn(len(l))]
		mustHold(t, open(t, l), l)
	}
	// All keys, in descending order.
	var l []api.Sealed
	for key := 4999; key >= 0; key-- {
		l = append(l, api.Sealed{Key: key, Text: "a"})
	}
	mustHold(t, open(t, l), l)
}

// A ring that was opened is one like all others.
func TestOpenGoesOn(t *testing.T) {
	for _, l := range [][]api.Sealed{nil, {{Key: 3, Text: "a"}}, {{Key: 4, Text: "a"}, {Key: 3, Text: "b"}, {Key: 3, Text: "a"}}} {
		r := open(t, l)
		for _, s := range signed(l) {
			if got := r.Sign(s.Key, s.Text); got != s {
				t.Error(got, s)
			}
		}
		mustHold(t, r, l)
		if got := r.Sign(9, "a"); got != (api.Signed{Key: 9, Text: "a", Mark: len(l)}) {
			t.Error(got)
		}
		mustHold(t, r, append(slices.Clone(l), api.Sealed{Key: 9, Text: "a"}))
	}
}

func TestOpenRefusesKeys(t *testing.T) {
	right := []api.Sealed{{Key: 3, Text: "a"}, {Key: 4, Text: "a"}, {Key: 3, Text: "b"}}
	for _, key := range notKeys {
		for _, text := range texts {
			wrong := api.Sealed{Key: key, Text: text}
			mustRefuse(t, []api.Sealed{wrong}, api.ErrArg)
			for i := range 4 {
				mustRefuse(t, slices.Insert(slices.Clone(right), i, wrong), api.ErrArg)
			}
		}
	}
}

func TestOpenRefusesEqualEntries(t *testing.T) {
	for _, e := range product() {
		mustRefuse(t, []api.Sealed{e, e}, api.ErrTwice)
	}
	l := product()
	for i := range l {
		mustRefuse(t, append(slices.Clone(l), l[i]), api.ErrTwice)
		mustRefuse(t, slices.Insert(slices.Clone(l), i, l[len(l)-1]), api.ErrTwice)
	}
	mustRefuse(t, []api.Sealed{{}, {}}, api.ErrTwice)
	mustRefuse(t, slices.Repeat([]api.Sealed{{Key: 7, Text: "a"}}, 5), api.ErrTwice)
	// Equal bytes in other memory are equal.
	mustRefuse(t, []api.Sealed{{Key: 7, Text: "ab"}, {Key: 7, Text: string([]byte{'a', 'b'})}}, api.ErrTwice)
}

func TestOpenOrderOfErrors(t *testing.T) {
	twice := []api.Sealed{{Key: 3, Text: "a"}, {Key: 3, Text: "a"}}
	for _, key := range notKeys {
		for i := range 3 {
			mustRefuse(t, slices.Insert(slices.Clone(twice), i, api.Sealed{Key: key, Text: "a"}), api.ErrArg)
		}
		mustRefuse(t, []api.Sealed{{Key: key, Text: "a"}, {Key: key, Text: "a"}}, api.ErrArg)
	}
}

// P8.2

func TestSignExamples(t *testing.T) {
	r := New()
	for _, want := range []api.Signed{{Key: 3, Text: "a", Mark: 0}, {Key: 4, Text: "a", Mark: 1}, {Key: 3, Text: "a", Mark: 0}} {
		if got := r.Sign(want.Key, want.Text); got != want {
			t.Error(got, want)
		}
	}
	for _, x := range []struct {
		s    api.Signed
		want bool
	}{
		{api.Signed{Key: 3, Text: "a", Mark: 0}, true}, {api.Signed{Key: 3, Text: "a", Mark: 1}, false}, {api.Signed{Key: 3, Text: "b", Mark: 0}, false},
		{api.Signed{Key: 4, Text: "a", Mark: 1}, true}, {api.Signed{Key: 4, Text: "a", Mark: 0}, false}, {api.Signed{Key: 5, Text: "a", Mark: 0}, false},
		{api.Signed{Key: 3, Text: "a", Mark: 2}, false}, {api.Signed{Key: 3, Text: "a", Mark: -1}, false}, {api.Signed{}, false},
	} {
		if got := r.Valid(x.s); got != x.want {
			t.Error(x, got)
		}
	}
	if got := r.Sign(5000, "a"); got != (api.Signed{}) {
		t.Error(got)
	}
	mustHold(t, r, []api.Sealed{{Key: 3, Text: "a"}, {Key: 4, Text: "a"}})
}

func TestSignAppends(t *testing.T) {
	r := New()
	l := product()
	for i, want := range signed(l) {
		if got := r.Sign(want.Key, want.Text); got != want {
			t.Errorf("%v, not %v", got, want)
		}
		if i%40 == 0 {
			mustHold(t, r, l[:i+1])
		}
	}
	mustHold(t, r, l)
}

func TestSignRefusesKeys(t *testing.T) {
	for _, l := range [][]api.Sealed{nil, {{}}, {{Key: 3, Text: "a"}, {Key: 0, Text: ""}}} {
		r := open(t, l)
		for _, key := range notKeys {
			for _, text := range texts {
				if got := r.Sign(key, text); got != (api.Signed{}) {
					t.Errorf("%v", got)
				}
			}
		}
		mustHold(t, r, l)
		// What was refused has taken no mark.
		if got := r.Sign(8, "a"); got != (api.Signed{Key: 8, Text: "a", Mark: len(l)}) {
			t.Error(got)
		}
	}
}

// A zero signature is one of the key 0 for the empty text: it holds if that was the first one.
func TestZeroSignature(t *testing.T) {
	r := New()
	if r.Valid(api.Signed{}) || r.Valid(r.Sign(-1, "")) {
		t.Error("nothing was signed")
	}
	r.Sign(0, "")
	if !r.Valid(api.Signed{}) {
		t.Error("it was signed")
	}
	r = open(t, []api.Sealed{{Key: 1}, {}})
	if r.Valid(api.Signed{}) || !r.Valid(api.Signed{Mark: 1}) {
		t.Error("its mark is 1")
	}
}

func TestValidOfOthers(t *testing.T) {
	l := product()
	r := open(t, l)
	for i, s := range signed(l) {
		for _, mark := range []int{-1, i - 1, i + 1, -i - 1, len(l), i + 1<<32, i - 1<<32, math.MinInt, math.MaxInt} {
			if r.Valid(api.Signed{Key: s.Key, Text: s.Text, Mark: mark}) {
				t.Errorf("%v with the mark %d", s, mark)
			}
		}
		for _, key := range append([]int{s.Key + 5, s.Key + 1<<32}, notKeys...) {
			if r.Valid(api.Signed{Key: key, Text: s.Text, Mark: i}) {
				t.Errorf("%v with the key %d", s, key)
			}
		}
		for _, text := range []string{s.Text + "?", "?" + s.Text, s.Text + "\x00"} {
			if r.Valid(api.Signed{Key: s.Key, Text: text, Mark: i}) {
				t.Errorf("%v with the text %v", s, text)
			}
		}
	}
	mustHold(t, r, l)
}

func TestIsTheModel(t *testing.T) {
	r := rand.New(rand.NewSource(82))
	for range 200 {
		ring, m := New(), &model{}
		for range 100 {
			key, text := r.Intn(6)-1, texts[r.Intn(6)]
			if key == 4 {
				key = []int{4999, 5000}[r.Intn(2)]
			}
			s := api.Signed{Key: key, Text: text, Mark: r.Intn(len(m.entries)+3) - 1}
			if r.Intn(2) == 0 {
				if got, want := ring.Valid(s), m.valid(s); got != want {
					t.Error(s, got)
				}
				continue
			}
			if got, want := ring.Sign(key, text), m.sign(key, text); got != want {
				t.Error(got, want)
			}
		}
		mustHold(t, ring, m.entries)
	}
}

// P8.3

func TestAllAndCopy(t *testing.T) {
	for n := range 20 {
		l := product()[:n]
		r := open(t, l)
		mustHold(t, r, l)
		mustHold(t, r.Copy(), l)
		mustHold(t, r.Copy().Copy(), l)
	}
}

// grow signs other texts in two rings, which had the same entries, in turn.
func grow(t *testing.T, l []api.Sealed, a, b *Ring) {
	t.Helper()
	inA, inB := slices.Clone(l), slices.Clone(l)
	for i := range 20 {
		ofA, ofB := api.Sealed{Key: i, Text: "of a"}, api.Sealed{Key: i, Text: "of b"}
		a.Sign(ofA.Key, ofA.Text)
		inA = append(inA, ofA)
		b.Sign(ofB.Key, ofB.Text)
		inB = append(inB, ofB)
		mark := len(l) + i
		if a.Valid(api.Signed{Key: i, Text: "of b", Mark: mark}) || b.Valid(api.Signed{Key: i, Text: "of a", Mark: mark}) {
			t.Error("a ring has what the other one signed")
		}
		mustHold(t, a, inA)
		mustHold(t, b, inB)
	}
}

func TestCopyIsIndependent(t *testing.T) {
	// With each length, so that there is sometimes room for more entries behind the last one.
	for n := range 20 {
		l := product()[:n]
		r, signing := open(t, l), New()
		for _, e := range l {
			signing.Sign(e.Key, e.Text)
		}
		grow(t, l, r, r.Copy())
		c := signing.Copy()
		grow(t, l, c.Copy(), c)
		grow(t, l, signing, signing.Copy())
	}
}

// P8.4

func TestArgumentsStay(t *testing.T) {
	l := product()
	before := slices.Clone(l)
	for n := range 40 {
		// Behind the part that is an argument, the list has more memory, which stays as it is.
		r := open(t, l[:n])
		r.Sign(8, "a")
		mustRefuse(t, append(slices.Clone(l[:n]), api.Sealed{Key: -1}), api.ErrArg)
		if !slices.Equal(l, before) {
			t.Fatal("an argument was changed", n)
		}
	}
	r := open(t, l)
	for i := range l {
		l[i] = api.Sealed{Key: 8, Text: "other"}
	}
	mustHold(t, r, before)
}

func TestResultsShareNothing(t *testing.T) {
	for n := range 40 {
		l := product()[:n]
		r := New()
		for _, e := range l {
			r.Sign(e.Key, e.Text)
		}
		first, second := r.All(), r.All()
		for i := range first {
			first[i] = api.Sealed{Key: 8, Text: "other"}
		}
		if !slices.Equal(second, l) {
			t.Error("two results share memory")
		}
		mustHold(t, r, l)
		// Both write behind the last entry.
		more := append(second, api.Sealed{Key: 9, Text: "mine"})
		r.Sign(8, "a")
		if more[n] != (api.Sealed{Key: 9, Text: "mine"}) || !slices.Equal(r.All(), append(slices.Clone(l), api.Sealed{Key: 8, Text: "a"})) {
			t.Error("a result shares memory with the ring")
		}
	}
}

func TestPure(t *testing.T) {
	l := product()
	r := open(t, l)
	for range 3 {
		mustHold(t, r, l)
		if r.Valid(api.Signed{Key: 8, Text: "a", Mark: len(l)}) || r.Valid(api.Signed{Key: 8, Text: "a"}) {
			t.Error("nobody signed it")
		}
		r.Copy().Sign(8, "a")
	}
}

// P8.5

func TestJustWhatWasSigned(t *testing.T) {
	r := rand.New(rand.NewSource(85))
	for range 60 {
		ring := New()
		made := map[api.Signed]bool{}
		for range r.Intn(12) {
			made[ring.Sign(r.Intn(3), texts[r.Intn(3)])] = true
			ring.Sign([]int{-1, 5000}[r.Intn(2)], texts[r.Intn(3)])
		}
		// Each signature of some, whether it was made or not.
		for key := -1; key <= 4; key++ {
			for _, text := range texts[:5] {
				for mark := -1; mark <= 13; mark++ {
					s := api.Signed{Key: key, Text: text, Mark: mark}
					if ring.Valid(s) != made[s] {
						t.Error(s, made[s])
					}
				}
			}
		}
	}
}

// Somebody who has all signatures of other keys, or for other texts, can make none from them.
func TestNobodyForges(t *testing.T) {
	l := product()
	for i, e := range l {
		r := open(t, slices.Delete(slices.Clone(l), i, i+1))
		for mark := -1; mark <= len(l); mark++ {
			if r.Valid(api.Signed{Key: e.Key, Text: e.Text, Mark: mark}) {
				t.Fatalf("%v with the mark %d", e, mark)
			}
		}
	}
}

// P8.6

func TestSigningAgain(t *testing.T) {
	r := rand.New(rand.NewSource(86))
	ring := New()
	var made []api.Signed
	for range 600 {
		key, text := keys[r.Intn(len(keys))], texts[r.Intn(len(texts))]
		count := len(ring.All())
		s := ring.Sign(key, text)
		if slices.Contains(made, s) {
			if len(ring.All()) != count {
				t.Fatal("signing again changed the ring")
			}
			continue
		}
		// The next mark, without a gap.
		if s != (api.Signed{Key: key, Text: text, Mark: len(made)}) || len(ring.All()) != count+1 {
			t.Fatalf("%v after %d", s, len(made))
		}
		made = append(made, s)
	}
	if len(made) < 150 || len(made) > 225 {
		t.Fatal(len(made))
	}
	all := ring.All()
	for _, s := range made {
		for _, again := range []api.Signed{ring.Sign(s.Key, s.Text), ring.Copy().Sign(s.Key, s.Text), open(t, all).Sign(s.Key, s.Text)} {
			if again != s {
				t.Errorf("%v, not %v", again, s)
			}
		}
	}
	mustHold(t, ring, all)
}

func TestHoldsForEver(t *testing.T) {
	ring := New()
	var made []api.Signed
	for i := range 3000 {
		made = append(made, ring.Sign(i*7%5000, texts[i%len(texts)]))
		ring.Sign(5000+i, "a")
		ring.Sign(made[i/2].Key, made[i/2].Text)
		if !ring.Valid(made[i/3]) || made[i].Mark != i {
			t.Fatal(i)
		}
	}
	for _, s := range made {
		if !ring.Valid(s) {
			t.Errorf("%v", s)
		}
	}
}
