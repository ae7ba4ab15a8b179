package share

import (
	"math"
	"math/rand"
	"slices"
	"testing"

	"tonneau/api"
)

// secrets are secrets at the bounds, and some in between.
var secrets = []int{0, 1, 2, 5, 1000000, 1 << 30, 2147483645, 2147483646}

// seeds are seeds at the bounds of ints and of 31 bits.
var seeds = []int{
	0, 1, -1, 9, -9, 12345, 1<<31 - 2, 1<<31 - 1, 1 << 31, 1<<31 + 1, -1 << 31, 1 - 1<<31, -1 - 1<<31, 1 << 32, 1<<62 + 5, math.MinInt, math.MaxInt,
}

// notSecrets are numbers that are not in the field.
var notSecrets = []int{-1, -5, 2147483647, 2147483648, 1 << 32, math.MinInt, math.MaxInt}

// wrongShares are shares that are not right.
var wrongShares = []api.Share{
	{X: 0, Y: 1}, {X: -1, Y: 1}, {X: 21, Y: 1}, {X: 22, Y: 0}, {X: math.MinInt, Y: 1}, {X: math.MaxInt, Y: 1}, {X: 1 << 32, Y: 1}, {X: 2147483648, Y: 1},
	{X: 5, Y: -1}, {X: 5, Y: 2147483647}, {X: 5, Y: 2147483648}, {X: 5, Y: math.MinInt}, {X: 5, Y: math.MaxInt}, {X: 0, Y: -1}, {X: 21, Y: 2147483647}, {},
}

// split returns the shares of a secret, and fails if there are none.
func split(t *testing.T, secret, k, n, seed int) []api.Share {
	t.Helper()
	l, err := Split(secret, k, n, seed)
	if err != api.OK || len(l) != n {
		t.Fatal(secret, k, n, seed, l, err)
	}
	return l
}

// mustJoin fails if shares do not join to a secret.
func mustJoin(t *testing.T, l []api.Share, k, secret int) {
	t.Helper()
	if got, err := Join(l, k); got != secret || err != api.OK {
		t.Errorf("Join(%v, %d) is %d, %d, not %d", l, k, got, err, secret)
	}
}

// mustRefuse fails if shares are not refused with an error.
func mustRefuse(t *testing.T, l []api.Share, k int, want api.Errno) {
	t.Helper()
	if got, err := Join(l, k); got != 0 || err != want {
		t.Errorf("Join(%v, %d) is %d, %d, not the error %d", l, k, got, err, want)
	}
}

// shuffled returns some shares of a list in any order.
func shuffled(r *rand.Rand, l []api.Share, n int) []api.Share {
	l = slices.Clone(l)
	r.Shuffle(len(l), func(i, j int) { l[i], l[j] = l[j], l[i] })
	return l[:n]
}

// P7.1

func TestSplitExamples(t *testing.T) {
	if l := split(t, 5, 1, 3, 9); !slices.Equal(l, []api.Share{{X: 1, Y: 5}, {X: 2, Y: 5}, {X: 3, Y: 5}}) {
		t.Error(l)
	}
	// x1 of the seed 0 is 12345.
	if l := split(t, 7, 2, 2, 0); !slices.Equal(l, []api.Share{{X: 1, Y: 12352}, {X: 2, Y: 24697}}) {
		t.Error(l)
	}
	// x1 of the seed 1 is 1103527590, and of the seed -1, which is 2^31 - 1, 1043980748.
	if l := split(t, 0, 2, 2, 1); !slices.Equal(l, []api.Share{{X: 1, Y: 1103527590}, {X: 2, Y: 2*1103527590 - 2147483647}}) {
		t.Error(l)
	}
	if l := split(t, 0, 2, 2, -1); !slices.Equal(l, []api.Share{{X: 1, Y: 1043980748}, {X: 2, Y: 2087961496}}) {
		t.Error(l)
	}
	// x1 and x2 of the seed 0 are 12345 and 1406932606.
	if l := split(t, 1, 3, 2+1, 0); !slices.Equal(l, []api.Share{{X: 1, Y: 1406944952}, {X: 2, Y: (1 + 2*12345 + 4*1406932606) % 2147483647}, {X: 3, Y: (1 + 3*12345 + 9*1406932606) % 2147483647}}) {
		t.Error(l)
	}
}

// seedBefore returns the seed whose x1 is x.
func seedBefore(x int) int {
	seed := 0
	// The lowest bits of x1 depend on the lowest bits of the seed alone: one bit after the other.
	for bit := range 31 {
		if (1103515245*seed+12345-x)>>bit%2 != 0 {
			seed += 1 << bit
		}
	}
	return seed
}

// A coefficient is a number of the seed modulo Prime, not modulo 2^31: 2^31 - 1 is 0 in the field.
func TestSplitReducesNumbers(t *testing.T) {
	seed := seedBefore(2147483647)
	if seed < 0 || (1103515245*seed+12345)%(1<<31) != 2147483647 {
		t.Fatal(seed)
	}
	for _, s := range []int{seed, seed - 1<<31, seed + 1<<31, seed + 1<<62, seed - 1<<62} {
		if l := split(t, 6, 2, 20, s); slices.ContainsFunc(l, func(s api.Share) bool { return s.Y != 6 }) {
			t.Error(s, l)
		}
		// The number after it follows from 2^31 - 1, not from 0.
		if l := split(t, 6, 3, 3, s); l[0].Y != 6+1043980748 {
			t.Error(s, l)
		}
	}
}

func TestSplitIsTheModel(t *testing.T) {
	check := func(secret, k, n, seed int) {
		got, err := Split(secret, k, n, seed)
		want, wantErr := modelSplit(secret, k, n, seed)
		if !slices.Equal(got, want) || err != wantErr {
			t.Errorf("Split(%d, %d, %d, %d) is %v, %d, not %v, %d", secret, k, n, seed, got, err, want, wantErr)
		}
	}
	for n := -1; n <= 22; n++ {
		for k := -1; k <= 22; k++ {
			for i, secret := range secrets {
				check(secret, k, n, seeds[(n+k+i+20)%len(seeds)])
			}
			check(-1, k, n, 3)
		}
	}
	for _, seed := range seeds {
		for _, secret := range secrets {
			check(secret, 20, 20, seed)
		}
	}
	r := rand.New(rand.NewSource(71))
	for range 2000 {
		n := 1 + r.Intn(20)
		check(r.Intn(2147483647), 1+r.Intn(n), n, int(r.Uint64()))
	}
}

func TestSplitRefuses(t *testing.T) {
	refuse := func(secret, k, n int) {
		if l, err := Split(secret, k, n, 4); len(l) != 0 || err != api.ErrArg {
			t.Error(secret, k, n, l, err)
		}
	}
	for _, secret := range notSecrets {
		refuse(secret, 2, 3)
	}
	for _, n := range []int{0, -1, 21, 22, math.MinInt, math.MaxInt} {
		refuse(5, 1, n)
		refuse(5, 0, n)
		refuse(5, n, n)
	}
	for _, k := range []int{0, -1, 4, 20, 21, math.MinInt, math.MaxInt} {
		refuse(5, k, 3)
	}
}

// P7.2

func TestJoinExamples(t *testing.T) {
	two := []api.Share{{X: 1, Y: 7}, {X: 2, Y: 9}}
	mustJoin(t, two, 2, 5)
	mustJoin(t, append(two, api.Share{X: 3, Y: 11}), 2, 5)
	mustRefuse(t, append(two, api.Share{X: 3, Y: 12}), 2, api.ErrCheck)
	mustJoin(t, append(two, api.Share{X: 3, Y: 12}), 3, 6)
	mustRefuse(t, two[:1], 2, api.ErrFew)
	mustRefuse(t, []api.Share{{X: 1, Y: 7}, {X: 1, Y: 7}}, 2, api.ErrTwice)
	mustJoin(t, []api.Share{{X: 20, Y: 2147483646}}, 1, 2147483646)
	mustJoin(t, []api.Share{{X: 1, Y: 0}}, 1, 0)
	// The line through (19, 2147483646) and (20, 0) goes down by 2147483646, or up by 1.
	mustJoin(t, []api.Share{{X: 19, Y: 2147483646}, {X: 20, Y: 0}}, 2, 2147483627)
}

func TestJoinRefusesArguments(t *testing.T) {
	l := split(t, 5, 3, 20, 1)
	for _, k := range []int{0, -1, 21, 22, math.MinInt, math.MaxInt} {
		mustRefuse(t, l, k, api.ErrArg)
		mustRefuse(t, nil, k, api.ErrArg)
		mustRefuse(t, []api.Share{l[0], l[0]}, k, api.ErrArg)
	}
	for _, s := range wrongShares {
		for i := range 5 {
			mustRefuse(t, slices.Insert(slices.Clone(l[:4]), i, s), 3, api.ErrArg)
		}
		mustRefuse(t, []api.Share{s}, 1, api.ErrArg)
		mustRefuse(t, []api.Share{s}, 2, api.ErrArg)
		mustRefuse(t, []api.Share{s, s}, 2, api.ErrArg)
		mustRefuse(t, []api.Share{l[0], l[0], s}, 2, api.ErrArg)
	}
}

func TestJoinOrderOfErrors(t *testing.T) {
	l := split(t, 5, 3, 20, 1)
	mustRefuse(t, nil, 1, api.ErrFew)
	mustRefuse(t, nil, 20, api.ErrFew)
	mustRefuse(t, l[:19], 20, api.ErrFew)
	mustRefuse(t, []api.Share{l[0], l[0]}, 3, api.ErrTwice)
	mustRefuse(t, []api.Share{l[0], l[1], l[2], l[0]}, 3, api.ErrTwice)
	mustRefuse(t, []api.Share{l[0], l[1], {X: 1, Y: 12}}, 2, api.ErrTwice)
	mustRefuse(t, []api.Share{l[19], {X: 20, Y: 12}}, 2, api.ErrTwice)
	mustRefuse(t, append(slices.Clone(l), l...), 3, api.ErrTwice)
	mustRefuse(t, slices.Repeat([]api.Share{l[7]}, 100000), 3, api.ErrTwice)
	mustRefuse(t, []api.Share{{X: 1, Y: 1}, {X: 2, Y: 2}}, 1, api.ErrCheck)
}

// randomShares returns right shares, perhaps those of a secret, perhaps with one of them changed.
func randomShares(r *rand.Rand, k int) []api.Share {
	n := r.Intn(21)
	l, _ := modelSplit(r.Intn(2147483647), min(1+r.Intn(k+1), 20), 20, int(r.Uint64()))
	l = shuffled(r, l, n)
	if n > 0 {
		switch r.Intn(8) {
		case 0:
			l[r.Intn(n)].Y = r.Intn(2147483647)
		case 1:
			l[r.Intn(n)].X = 1 + r.Intn(20)
		case 2:
			l[r.Intn(n)] = wrongShares[r.Intn(len(wrongShares))]
		}
	}
	return l
}

func TestJoinIsTheModel(t *testing.T) {
	r := rand.New(rand.NewSource(72))
	count := map[api.Errno]int{}
	for range 3000 {
		k := r.Intn(23) - 1
		l := randomShares(r, max(k, 1))
		got, err := Join(l, k)
		want, wantErr := modelJoin(l, k)
		if got != want || err != wantErr {
			t.Errorf("Join(%v, %d) is %d, %d, not %d, %d", l, k, got, err, want, wantErr)
		}
		count[err]++
	}
	for _, err := range []api.Errno{api.OK, api.ErrArg, api.ErrTwice, api.ErrFew, api.ErrCheck} {
		if count[err] < 60 {
			t.Error(err, count)
		}
	}
}

// P7.3

func TestFitsExamples(t *testing.T) {
	one, two := []api.Share{{X: 1, Y: 7}}, []api.Share{{X: 1, Y: 7}, {X: 2, Y: 9}}
	for _, x := range []struct {
		l         []api.Share
		k, secret int
		want      bool
	}{
		{one, 2, 5, true}, {one, 2, 6, true}, {two, 2, 5, true}, {two, 2, 6, false}, {two, 3, 6, true}, {one, 1, 7, true}, {one, 1, 8, false},
		{two, 1, 7, false}, {two, 1, 9, false}, {nil, 1, 0, true}, {nil, 20, 2147483646, true}, {append(two, api.Share{X: 3, Y: 11}), 2, 5, true},
		{append(two, api.Share{X: 3, Y: 12}), 2, 5, false}, {append(two, api.Share{X: 3, Y: 12}), 3, 5, false}, {append(two, api.Share{X: 3, Y: 12}), 3, 6, true},
	} {
		if got := Fits(x.l, x.k, x.secret); got != x.want {
			t.Error(x, got)
		}
	}
}

func TestFitsNotArguments(t *testing.T) {
	l := split(t, 5, 3, 20, 1)
	if !Fits(l, 3, 5) || !Fits(l[:1], 3, 5) || !Fits(l[:1], 20, 5) || !Fits(l, 20, 5) {
		t.Error("they fit")
	}
	for _, k := range []int{0, -1, 21, 22, math.MinInt, math.MaxInt} {
		if Fits(l, k, 5) || Fits(nil, k, 5) || Fits(l[:1], k, 5) {
			t.Error(k)
		}
		// The polynomial 0 has no degree.
		if Fits(nil, k, 0) || Fits([]api.Share{{X: 1, Y: 0}, {X: 2, Y: 0}}, k, 0) {
			t.Error(k)
		}
	}
	for _, secret := range notSecrets {
		if Fits(l, 3, secret) || Fits(nil, 1, secret) || Fits(l[:1], 20, secret) {
			t.Error(secret)
		}
	}
	// 5 more by Prime, or less, is 5 in the field, but no number of it.
	if Fits(l, 3, 5+2147483647) || Fits(l, 3, 5-2147483647) {
		t.Error("it is not in the field")
	}
	for _, s := range wrongShares {
		if Fits([]api.Share{s}, 5, 5) || Fits([]api.Share{l[0], s}, 5, 5) || Fits([]api.Share{s, l[0]}, 5, 5) {
			t.Error(s)
		}
	}
	if Fits([]api.Share{l[0], l[0]}, 5, 5) || Fits([]api.Share{l[0], l[1], l[2], l[0]}, 3, 5) || Fits([]api.Share{{X: 20, Y: 1}, {X: 20, Y: 2}}, 5, 5) {
		t.Error("two have the same X")
	}
}

func TestFitsIsTheModel(t *testing.T) {
	r := rand.New(rand.NewSource(73))
	count := map[bool]int{}
	for range 3000 {
		k := r.Intn(23) - 1
		l := randomShares(r, max(k, 1))
		secret := r.Intn(2147483647)
		if joined, err := modelJoin(l, k); err == api.OK && r.Intn(3) > 0 {
			secret = joined
		}
		if r.Intn(10) == 0 {
			secret = notSecrets[r.Intn(len(notSecrets))]
		}
		got, want := Fits(l, k, secret), modelFits(l, k, secret)
		if got != want {
			t.Errorf("Fits(%v, %d, %d) is %v", l, k, secret, got)
		}
		count[got]++
	}
	if count[false] < 500 || count[true] < 500 {
		t.Error(count)
	}
}

// P7.4

func TestPure(t *testing.T) {
	l := split(t, 5, 3, 20, 1)
	before := slices.Clone(l)
	// Behind the part that is an argument, the list has more memory, which stays as it is.
	for n := range 21 {
		for k := 1; k <= 20; k++ {
			first, err := Join(l[:n], k)
			again, errAgain := Join(l[:n], k)
			if first != again || err != errAgain || Fits(l[:n], k, 5) != Fits(l[:n], k, 5) || Fits(l[:n], k, 6) != Fits(l[:n], k, 6) {
				t.Error(n, k)
			}
		}
	}
	if !slices.Equal(l, before) {
		t.Error(l)
	}
	again := split(t, 5, 3, 20, 1)
	l[0].Y = 1
	if !slices.Equal(again, before) || !slices.Equal(split(t, 5, 3, 20, 1), before) {
		t.Error("results share memory")
	}
}

// P7.5

func TestAnyKJoin(t *testing.T) {
	r := rand.New(rand.NewSource(75))
	for n := 1; n <= 20; n++ {
		for k := 1; k <= n; k++ {
			secret := r.Intn(2147483647)
			if k%3 == 0 {
				secret = secrets[r.Intn(len(secrets))]
			}
			l := split(t, secret, k, n, int(r.Uint64()))
			for range 3 {
				mustJoin(t, shuffled(r, l, k), k, secret)
				mustJoin(t, shuffled(r, l, k+r.Intn(n-k+1)), k, secret)
			}
			mustJoin(t, l, k, secret)
		}
	}
	// All the parts of 6 shares.
	l := split(t, 77, 3, 6, 5)
	for set := range 64 {
		var part []api.Share
		for i, s := range l {
			if set>>i%2 == 1 {
				part = append(part, s)
			}
		}
		if len(part) >= 3 {
			mustJoin(t, part, 3, 77)
		} else {
			mustRefuse(t, part, 3, api.ErrFew)
		}
	}
}

func TestFewerSayNothing(t *testing.T) {
	r := rand.New(rand.NewSource(76))
	for range 400 {
		n := 1 + r.Intn(20)
		k := 1 + r.Intn(n)
		secret := r.Intn(2147483647)
		l := split(t, secret, k, n, int(r.Uint64()))
		for _, other := range append([]int{r.Intn(2147483647), secret}, secrets...) {
			if !Fits(shuffled(r, l, r.Intn(k)), k, other) {
				t.Error(l, k, other)
			}
			if Fits(shuffled(r, l, k+r.Intn(n-k+1)), k, other) != (other == secret) {
				t.Error(l, k, other, secret)
			}
		}
	}
}

// P7.6

func TestSumsJoinToTheSum(t *testing.T) {
	r := rand.New(rand.NewSource(77))
	for range 400 {
		n := 1 + r.Intn(20)
		k := 1 + r.Intn(n)
		a, b := secrets[r.Intn(len(secrets))], r.Intn(2147483647)
		l, other := split(t, a, k, n, int(r.Uint64())), split(t, b, k, n, int(r.Uint64()))
		for i := range l {
			l[i].Y = (l[i].Y + other[i].Y) % 2147483647
		}
		mustJoin(t, l, k, (a+b)%2147483647)
		mustJoin(t, shuffled(r, l, k), k, (a+b)%2147483647)
	}
}

// P7.7

func TestChangedShare(t *testing.T) {
	r := rand.New(rand.NewSource(78))
	for range 1000 {
		n := 1 + r.Intn(20)
		k := 1 + r.Intn(n)
		secret := r.Intn(2147483647)
		l := shuffled(r, split(t, secret, k, n, int(r.Uint64())), k+r.Intn(n-k+1))
		i := r.Intn(len(l))
		// Often the least change that there is.
		by := []int{1, 2147483646, 1 + r.Intn(2147483646)}[r.Intn(3)]
		l[i].Y = (l[i].Y + by) % 2147483647
		if len(l) > k {
			mustRefuse(t, l, k, api.ErrCheck)
		} else if got, err := Join(l, k); got == secret || err != api.OK {
			t.Error(l, k, got, err)
		}
	}
}
