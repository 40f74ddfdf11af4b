package guess_test

import (
	"math"
	"math/big"
	"slices"
	"testing"

	"gleanings/api"
	"gleanings/bits"
	"gleanings/comb"
	"gleanings/guess"
	"gleanings/wave"
)

const most = 1 << 30 // of the numbers of a part that Add and Times are said of

var nothing = api.Part{N: 0, D: 1}

func part(n, d int) api.Part { return api.Part{N: n, D: d} }

func ratio(p api.Part) *big.Rat { return big.NewRat(int64(p.N), int64(p.D)) }

// is whether a part is a ratio, without a common divisor.
func is(p api.Part, want *big.Rat) bool {
	return want.Num().IsInt64() && want.Denom().IsInt64() && int64(p.N) == want.Num().Int64() && int64(p.D) == want.Denom().Int64()
}

// eachList runs a test on all lists of up to so many numbers from one to
// another one.
func eachList(least, greatest, most int, test func(l []int)) {
	l := []int{}
	var grow func(most int)
	grow = func(most int) {
		test(slices.Clone(l))
		if most == 0 {
			return
		}
		for n := least; n <= greatest; n++ {
			l = append(l, n)
			grow(most - 1)
			l = l[:len(l)-1]
		}
	}
	grow(most)
}

// eachText runs a test on all lists of up to so many signs, with Last behind.
func eachText(greatest, most int, test func(l []int)) {
	eachList(1, greatest, most, func(l []int) { test(append(l, api.Last)) })
}

// mixed is a text that hangs on its arguments alone, of signs up to greatest.
func mixed(length, greatest int) []int {
	l := make([]int, length)
	state := uint32(length*31 + greatest)
	for i := range l {
		state = state*1664525 + 1013904223
		l[i] = int(state>>8)%greatest + 1
	}
	l[length-1] = api.Last
	return l
}

// repeated is a text of so many times the same signs.
func repeated(times int, signs ...int) []int {
	return append(slices.Repeat(signs, times), api.Last)
}

// heavy is a text in which much stands behind 5 and 5 5, and of which not all
// signs stand in it, so that parts have a great D.
func heavy() []int {
	l := slices.Repeat([]int{5}, 2000)
	for i := range 1008 {
		l = append(l, 5, 1021-i)
	}
	return append(l, api.Last)
}

func longTexts() [][]int {
	return [][]int{
		mixed(64, 3), mixed(65, 2), mixed(130, 1), mixed(200, 5), mixed(300, 40), mixed(120, 1023),
		repeated(70, 1), repeated(40, 2, 3, 1), repeated(20, 299, 1, 128, 127),
	}
}

func mustMake(t *testing.T, l []int) api.Comb {
	t.Helper()
	c, ok := comb.Make(l)
	if !ok {
		t.Fatalf("%v: refused", l)
	}
	return c
}

// plainWeights looks through the text for what stands behind some signs: how
// often, or behind how many unlike signs ahead of these.
func plainWeights(l, ahead []int) map[int]int {
	count := map[int]int{}
	befores := map[int]map[int]bool{}
	for i := 0; i+len(ahead) < len(l); i++ {
		sign := l[i+len(ahead)]
		if sign == 0 || !slices.Equal(l[i:i+len(ahead)], ahead) {
			continue
		}
		if befores[sign] == nil {
			befores[sign] = map[int]bool{}
		}
		befores[sign][l[(i+len(l)-1)%len(l)]] = true
		count[sign]++
	}
	if len(ahead) == 2 {
		return count
	}
	for sign := range count {
		count[sign] = len(befores[sign])
	}
	return count
}

// plainAll is how likely all signs are, from the longest to the shortest, each
// number by looking.
func plainAll(l, before []int) []*big.Rat {
	if len(before) > 2 {
		before = before[len(before)-2:]
	}
	shorter := func() []*big.Rat {
		if len(before) > 0 {
			return plainAll(l, before[1:])
		}
		signs := slices.Max(l)
		parts := make([]*big.Rat, signs)
		for i := range parts {
			parts[i] = big.NewRat(1, int64(signs))
		}
		return parts
	}()
	weights, all := plainWeights(l, before), 0
	for _, w := range weights {
		all += w
	}
	if all == 0 {
		return shorter
	}
	for i, p := range shorter {
		p.Mul(p, big.NewRat(int64(3*len(weights)), int64(4*all)))
		if w := weights[i+1]; w > 0 {
			p.Add(p, big.NewRat(int64(4*w-3), int64(4*all)))
		}
	}
	return shorter
}

// checkBefore asks for all signs behind others, and for some that are none.
func checkBefore(t *testing.T, l []int, c api.Comb, before []int) {
	t.Helper()
	want, all := plainAll(l, before), guess.All(c, before)
	if len(all) != len(want) {
		t.Fatalf("%v of %v: %d signs, want %d", before, l, len(all), len(want))
	}
	sum, parts := new(big.Rat), nothing
	for i, p := range all {
		if !is(p, want[i]) {
			t.Errorf("%d behind %v of %v: %v, want %v", i+1, before, l, p, want[i])
		}
		sum.Add(sum, ratio(p))
		parts = guess.Add(parts, p)
	}
	if len(all) > 0 && (sum.Cmp(big.NewRat(1, 1)) != 0 || parts != part(1, 1)) {
		t.Errorf("%v of %v: %v, %v in all", before, l, sum, parts)
	}
	for i := 0; i < len(all); i += 1 + len(all)/8 {
		if p := guess.Likely(c, before, i+1); p != all[i] {
			t.Errorf("%d behind %v of %v: %v alone, %v of all", i+1, before, l, p, all[i])
		}
	}
	for _, sign := range []int{math.MinInt, -1, api.Last, len(all) + 1, len(all) + 1024, math.MaxInt} {
		if p := guess.Likely(c, before, sign); p != nothing {
			t.Errorf("%d behind %v of %v, which is no sign: %v", sign, before, l, p)
		}
	}
}

func TestPartsByHand(t *testing.T) {
	for _, q := range []struct{ a, b, sum, product api.Part }{
		{part(1, 6), part(1, 3), part(1, 2), part(1, 18)},
		{part(2, 3), part(3, 4), part(17, 12), part(1, 2)},
		{part(0, 1), part(0, 1), nothing, nothing},
		{part(0, 5), part(1, 2), part(1, 2), nothing},
		{part(0, most), part(0, 6), nothing, nothing},
		{part(1, 2), part(1, 2), part(1, 1), part(1, 4)},
		{part(2, 4), part(6, 8), part(5, 4), part(3, 8)},
		{part(7, 1), part(3, 1), part(10, 1), part(21, 1)},
		{part(most, 1), part(most, 1), part(2*most, 1), part(most*most, 1)},
		{part(most, most), part(most, most), part(2, 1), part(1, 1)},
		{part(1, most), part(1, most), part(1, most/2), part(1, most*most)},
		{part(1, most), part(1, most-1), part(2*most-1, most*(most-1)), part(1, most*(most-1))},
		{part(most, most-1), part(most-1, most), part(2*most*most-2*most+1, most*(most-1)), part(1, 1)},
		{part(most, 1), part(1, most), part(most*most+1, most), part(1, 1)},
	} {
		if sum := guess.Add(q.a, q.b); sum != q.sum {
			t.Errorf("%v and %v: %v, want %v", q.a, q.b, sum, q.sum)
		}
		if product := guess.Times(q.a, q.b); product != q.product {
			t.Errorf("%v of %v: %v, want %v", q.a, q.b, product, q.product)
		}
	}
}

func TestParts(t *testing.T) {
	check := func(numbers []int) {
		var parts []api.Part
		for _, n := range numbers {
			for _, d := range numbers {
				if d > 0 {
					parts = append(parts, part(n, d))
				}
			}
		}
		for _, a := range parts {
			for _, b := range parts {
				if got, want := guess.Add(a, b), new(big.Rat).Add(ratio(a), ratio(b)); !is(got, want) {
					t.Errorf("%v and %v: %v, want %v", a, b, got, want)
				}
				if got, want := guess.Times(a, b), new(big.Rat).Mul(ratio(a), ratio(b)); !is(got, want) {
					t.Errorf("%v of %v: %v, want %v", a, b, got, want)
				}
			}
		}
	}
	check([]int{0, 1, 2, 3, 4, 5, 6, 7, 8, 9, 10, 11, 12})
	check([]int{0, 1, 2, 3, 30030, 1 << 20, 1<<29 - 1, 1 << 29, 3 << 28, 536870909, 735134400, most - 35, most - 2, most - 1, most})
}

// What others than parts are together is not promised, but that it is answered:
// what is no part makes it nothing, and what is too great may do so.
func TestNoParts(t *testing.T) {
	numbers := []int{math.MinInt, math.MinInt + 1, -most, -2, -1, 0, 1, 2, 3, most, 1 << 32, 1 << 62, math.MaxInt - 1, math.MaxInt}
	var parts []api.Part
	for _, n := range numbers {
		for _, d := range numbers {
			parts = append(parts, part(n, d))
		}
	}
	for _, a := range parts {
		for _, b := range parts {
			sum, product := guess.Add(a, b), guess.Times(a, b)
			if (min(a.N, b.N) < 0 || min(a.D, b.D) < 1) && (sum != nothing || product != nothing) {
				t.Errorf("%v and %v: %v; %v", a, b, sum, product)
			}
			if min(sum.N, product.N) < 0 || min(sum.D, product.D) < 1 {
				t.Errorf("%v and %v: %v; %v, which is no part", a, b, sum, product)
			}
		}
	}
}

func TestByHand(t *testing.T) {
	for _, q := range []struct {
		name      string
		l, before []int
		want      []api.Part
	}{
		{"nothing but Last", []int{0}, nil, nil},
		{"nothing but Last, behind it", []int{0}, []int{0}, nil},
		{"one line's end", []int{1, 0}, nil, []api.Part{part(1, 1)}},
		{"behind the only line's end", []int{1, 0}, []int{1}, []api.Part{part(1, 1)}},
		{"signs that are left out", []int{4, 0}, nil, []api.Part{part(3, 16), part(3, 16), part(3, 16), part(7, 16)}},
		// a b / a b, in two lines: a is 2, b is 3.
		{"behind nothing", []int{2, 3, 1, 2, 3, 1, 0}, nil, []api.Part{part(1, 4), part(1, 2), part(1, 4)}},
		{"behind a", []int{2, 3, 1, 2, 3, 1, 0}, []int{2}, []api.Part{part(3, 32), part(3, 16), part(23, 32)}},
		{"behind a line's end and a", []int{2, 3, 1, 2, 3, 1, 0}, []int{1, 2}, []api.Part{part(9, 128), part(9, 64), part(101, 128)}},
		{"behind a line's end: Last weighs nothing", []int{2, 3, 1, 2, 3, 1, 0}, []int{1}, []api.Part{part(3, 16), part(5, 8), part(3, 16)}},
		{"behind b and a line's end", []int{2, 3, 1, 2, 3, 1, 0}, []int{3, 1}, []api.Part{part(9, 64), part(23, 32), part(9, 64)}},
		{"behind a b", []int{2, 3, 1, 2, 3, 1, 0}, []int{2, 3}, []api.Part{part(101, 128), part(9, 64), part(9, 128)}},
		// 2 3 stands three times, but behind Last and 3 alone; 3 2 3 twice, but behind 2 alone.
		{"how many are ahead, not how often", []int{2, 3, 2, 3, 2, 3, 4, 0}, []int{2}, []api.Part{part(27, 512), part(87, 512), part(359, 512), part(39, 512)}},
		{"how often, not how many are ahead", []int{2, 3, 2, 3, 2, 3, 4, 0}, []int{3, 2}, []api.Part{part(81, 4096), part(261, 4096), part(3637, 4096), part(117, 4096)}},
	} {
		if got := guess.All(mustMake(t, q.l), q.before); !slices.Equal(got, q.want) {
			t.Errorf("%s: %v, want %v", q.name, got, q.want)
		}
	}
}

func TestShortTexts(t *testing.T) {
	check := func(greatest, most, mostBefore int) {
		eachText(greatest, most, func(l []int) {
			c := mustMake(t, l)
			eachList(-1, greatest+1, mostBefore, func(before []int) { checkBefore(t, l, c, before) })
		})
	}
	check(1, 6, 3)
	check(2, 5, 3)
	check(3, 4, 2)
}

// Signs that stand in the text at all are better asked for from the text itself.
func TestLongTexts(t *testing.T) {
	for _, l := range longTexts() {
		c := mustMake(t, l)
		for _, length := range []int{0, 1, 2, 3, 7} {
			for from := 0; from+length <= len(l); from += 1 + len(l)/3 {
				before := slices.Clone(l[from : from+length])
				checkBefore(t, l, c, before)
				if length > 0 {
					before[length-1] = before[length-1]%3 + 1
					checkBefore(t, l, c, before)
				}
			}
		}
	}
}

func TestUpToTheBoundsOfAnIndex(t *testing.T) {
	for _, l := range [][]int{mixed(4096, 1023), repeated(4095, 1023), heavy()} {
		c := mustMake(t, l)
		for _, before := range [][]int{nil, l[:1], l[:2], l[2000:2002], l[3000:4000]} {
			checkBefore(t, l, c, before)
		}
	}
	// Of such parts, two D times each other are too great for 64 bits.
	if p := guess.Likely(mustMake(t, heavy()), []int{5, 5}, 5); p.D < 1<<40 {
		t.Errorf("%v is not of many", p)
	}
}

func TestTheLastCount(t *testing.T) {
	l := mixed(200, 3)
	c := mustMake(t, l)
	want := guess.All(c, []int{2, 3})
	for _, before := range [][]int{{1, 2, 3}, {2, 2, 3}, {0, 2, 3}, {-1, 2, 3}, {math.MaxInt, math.MinInt, 2, 3}, append(make([]int, 1<<20), 2, 3)} {
		if got := guess.All(c, before); !slices.Equal(got, want) {
			t.Errorf("behind %d: %v, want %v", len(before), got, want)
		}
	}
	if slices.Equal(guess.All(c, []int{1, 3}), want) || slices.Equal(guess.All(c, []int{3}), want) {
		t.Error("the last but one does not count")
	}
}

// What stands nowhere, or has nothing but Last behind it, tells no more than
// what is shorter.
func TestNothingSeen(t *testing.T) {
	c := mustMake(t, []int{2, 3, 1, 2, 3, 1, 2, 4, 1, 0})
	for _, q := range []struct{ before, shorter []int }{
		{[]int{9}, nil},
		{[]int{0}, nil},
		{[]int{-1}, nil},
		{[]int{1024}, nil},
		{[]int{math.MaxInt}, nil},
		{[]int{math.MinInt}, nil},
		{[]int{2, 9}, nil},
		{[]int{1, 0}, nil},
		{[]int{9, 2}, []int{2}},
		{[]int{0, 2}, []int{2}},
		{[]int{4, 4}, []int{4}},
		{[]int{2, 2}, []int{2}},
		{[]int{4, 1}, []int{1}},
	} {
		if got, want := guess.All(c, q.before), guess.All(c, q.shorter); !slices.Equal(got, want) {
			t.Errorf("%v: %v, want %v as of %v", q.before, got, want, q.shorter)
		}
	}
}

func TestTheZeroValue(t *testing.T) {
	for _, before := range [][]int{nil, {}, {0}, {1}, {1, 2}, {1, 2, 3}} {
		if got := guess.All(api.Comb{}, before); len(got) != 0 {
			t.Errorf("%v: %v", before, got)
		}
		for _, sign := range []int{math.MinInt, -2, -1, 0, 1, 2, math.MaxInt} {
			if got := guess.Likely(api.Comb{}, before, sign); got != nothing {
				t.Errorf("%d behind %v: %v", sign, before, got)
			}
		}
	}
}

// damaged is indexes that Make has not made.
func damaged(t *testing.T) map[string]api.Comb {
	least, greatest := math.MinInt, math.MaxInt
	combs := map[string]api.Comb{}
	for name, damage := range map[string]func(c *api.Comb){
		"no ends":                     func(c *api.Comb) { c.Ends = nil },
		"one end fewer":               func(c *api.Comb) { c.Ends = c.Ends[1:] },
		"ends alike":                  func(c *api.Comb) { c.Ends = make([]int, 70) },
		"no less":                     func(c *api.Comb) { c.Less = nil },
		"one less":                    func(c *api.Comb) { c.Less = c.Less[:1] },
		"two less":                    func(c *api.Comb) { c.Less = c.Less[:2] },
		"the last less is gone":       func(c *api.Comb) { c.Less = c.Less[:4] },
		"many more less":              func(c *api.Comb) { c.Less = append(c.Less, make([]int, 2000)...) },
		"less all 0":                  func(c *api.Comb) { c.Less = make([]int, 5) },
		"less falling":                func(c *api.Comb) { slices.Reverse(c.Less) },
		"less below 0":                func(c *api.Comb) { c.Less = []int{-1, -2, -30, -200, -1} },
		"less far too small":          func(c *api.Comb) { c.Less = []int{least, least, least, least, least} },
		"less far too great":          func(c *api.Comb) { c.Less = []int{greatest, greatest, greatest, greatest, greatest} },
		"less just too great":         func(c *api.Comb) { c.Less = []int{70, 69, 60, 71, 70} },
		"less that just overflows":    func(c *api.Comb) { c.Less = []int{greatest - 1, greatest - 5, greatest - 9, greatest - 20, 0} },
		"no wave":                     func(c *api.Comb) { c.Wave = api.Wave{} },
		"a level is gone":             func(c *api.Comb) { c.Wave.Levels = c.Wave.Levels[1:] },
		"a wave of one number more":   func(c *api.Comb) { c.Wave.N++ },
		"a level without parts":       func(c *api.Comb) { c.Wave.Levels[9].Parts = nil },
		"a level that lies":           func(c *api.Comb) { c.Wave.Levels[8].Ahead[1] = greatest },
		"a level that lies below 0":   func(c *api.Comb) { c.Wave.Levels[9].Ahead[0] = least },
		"a level of other bits":       func(c *api.Comb) { c.Wave.Levels[9] = bits.Make(make([]bool, 70)) },
		"a wave that is not so deep":  func(c *api.Comb) { c.Wave, _ = wave.Make(mixed(70, 3), 2) },
		"a wave that is deeper":       func(c *api.Comb) { c.Wave, _ = wave.Make(mixed(70, 3), 16) },
		"a wave of numbers not there": func(c *api.Comb) { c.Wave, _ = wave.Make(mixed(70, 1023), 10) },
		"a longer wave":               func(c *api.Comb) { c.Wave, _ = wave.Make(mixed(700, 3), 10) },
		"a shorter wave":              func(c *api.Comb) { c.Wave, _ = wave.Make(mixed(7, 3), 10) },
	} {
		c := mustMake(t, mixed(70, 3))
		damage(&c)
		combs[name] = c
	}
	return combs
}

// What indexes that Make has not made answer is not promised, but that they do.
func TestNothingPanics(t *testing.T) {
	for _, c := range damaged(t) {
		eachList(-1, 4, 2, func(before []int) {
			guess.All(c, before)
			for _, sign := range []int{math.MinInt, -1, 0, 1, 2, 3, 4, 2003, 2004, math.MaxInt} {
				guess.Likely(c, before, sign)
			}
		})
	}
}

func TestListsAreLeftAlone(t *testing.T) {
	room := mixed(100, 3)
	want := slices.Clone(room)
	c, same := mustMake(t, room), mustMake(t, room)
	for _, before := range [][]int{room[:0], room[10:10], room[10:11], room[10:12], room[10:15]} {
		guess.All(c, before)
		for sign := range 5 {
			guess.Likely(c, before, sign)
		}
	}
	if !slices.Equal(room, want) {
		t.Error("a list or its spare room was changed")
	}
	if !slices.Equal(c.Ends, same.Ends) || !slices.Equal(c.Less, same.Less) || !slices.Equal(comb.Text(c), want) || !wave.Good(c.Wave) {
		t.Error("the index was changed")
	}
}
