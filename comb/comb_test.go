package comb_test

import (
	"math"
	"slices"
	"testing"

	"gleanings/api"
	"gleanings/bits"
	"gleanings/comb"
	"gleanings/sort"
	"gleanings/wave"
)

// eachList runs a test on all lists of up to so many numbers from one to
// another one.
func eachList(least, greatest, most int, test func(l []int)) {
	l := []int{}
	var grow func(most int)
	grow = func(most int) {
		test(slices.Clone(l))
		if most == 0 {
			return
		}
		for n := least; n <= greatest; n++ {
			l = append(l, n)
			grow(most - 1)
			l = l[:len(l)-1]
		}
	}
	grow(most)
}

// eachText runs a test on all lists of up to so many signs, with Last behind.
func eachText(greatest, most int, test func(l []int)) {
	eachList(1, greatest, most, func(l []int) { test(append(l, api.Last)) })
}

// mixed is a text that hangs on its arguments alone, of signs up to greatest.
func mixed(length, greatest int) []int {
	l := make([]int, length)
	state := uint32(length*31 + greatest)
	for i := range l {
		state = state*1664525 + 1013904223
		l[i] = int(state>>8)%greatest + 1
	}
	l[length-1] = api.Last
	return l
}

// repeated is a text of so many times the same signs.
func repeated(times int, signs ...int) []int {
	return append(slices.Repeat(signs, times), api.Last)
}

func longTexts() [][]int {
	return [][]int{
		mixed(64, 3), mixed(65, 2), mixed(130, 1), mixed(200, 5), mixed(300, 1023),
		repeated(70, 1), repeated(40, 2, 3, 1), repeated(30, 1023), repeated(20, 1023, 1, 512, 511),
	}
}

// plainEnds is all ends by order, compared number by number.
func plainEnds(l []int) []int {
	ends := make([]int, len(l))
	for i := range ends {
		ends[i] = i
	}
	slices.SortFunc(ends, func(a, b int) int { return slices.Compare(l[a:], l[b:]) })
	return ends
}

func stands(l, signs []int, place int) bool {
	return place+len(signs) <= len(l) && slices.Equal(l[place:place+len(signs)], signs)
}

// plainPlaces looks through the whole list.
func plainPlaces(l, signs []int) []int {
	var places []int
	for place := range l {
		if stands(l, signs, place) {
			places = append(places, place)
		}
	}
	return places
}

// plainFind looks at each of the ends.
func plainFind(l, ends, signs []int) api.Span {
	begins := func(end int) bool { return stands(l, signs, end) }
	from := slices.IndexFunc(ends, begins)
	if from < 0 {
		return api.Span{}
	}
	to := from
	for to < len(ends) && begins(ends[to]) {
		to++
	}
	return api.Span{From: from, To: to}
}

func rising(l []int) []int {
	l = slices.Clone(l)
	slices.Sort(l)
	return slices.Compact(l)
}

func plainBefores(l, signs []int) []int {
	var befores []int
	for _, place := range plainPlaces(l, signs) {
		if place == 0 {
			place = len(l)
		}
		befores = append(befores, l[place-1])
	}
	return rising(befores)
}

func plainBehinds(l, signs []int) []int {
	var behinds []int
	for _, place := range plainPlaces(l, signs) {
		if behind := place + len(signs); behind < len(l) {
			behinds = append(behinds, l[behind])
		}
	}
	return rising(behinds)
}

func sameBits(a, b api.Bits) bool {
	return a.N == b.N && slices.Equal(a.Parts, b.Parts) && slices.Equal(a.Ahead, b.Ahead)
}

func sameComb(a, b api.Comb) bool {
	return slices.Equal(a.Ends, b.Ends) && slices.Equal(a.Less, b.Less) &&
		a.Wave.N == b.Wave.N && a.Wave.Deep == b.Wave.Deep && slices.EqualFunc(a.Wave.Levels, b.Wave.Levels, sameBits)
}

func isZero(c api.Comb) bool {
	return len(c.Ends) == 0 && len(c.Less) == 0 && c.Wave.N == 0 && c.Wave.Deep == 0 && len(c.Wave.Levels) == 0
}

func mustMake(t *testing.T, l []int) api.Comb {
	t.Helper()
	c, ok := comb.Make(l)
	if !ok {
		t.Fatalf("%v: refused", l)
	}
	return c
}

func TestMakeByHand(t *testing.T) {
	for _, c := range []struct {
		name              string
		l                 []int
		ends, ahead, less []int
	}{
		{"nothing but Last", []int{0}, []int{0}, []int{0}, []int{0, 1}},
		{"one line's end", []int{1, 0}, []int{1, 0}, []int{1, 0}, []int{0, 1, 2}},
		{"signs that are left out", []int{4, 0}, []int{1, 0}, []int{4, 0}, []int{0, 1, 1, 1, 1, 2}},
		{"a word twice", []int{2, 3, 2, 3, 0}, []int{4, 2, 0, 3, 1}, []int{3, 3, 0, 2, 2}, []int{0, 1, 1, 3, 5}},
		{"two lines", []int{2, 3, 1, 2, 3, 1, 0}, []int{6, 5, 2, 3, 0, 4, 1}, []int{1, 3, 3, 1, 0, 2, 2}, []int{0, 1, 3, 5, 7}},
	} {
		got := mustMake(t, c.l)
		if !slices.Equal(got.Ends, c.ends) || !slices.Equal(got.Less, c.less) {
			t.Errorf("%s: ends %v, less %v, want %v, %v", c.name, got.Ends, got.Less, c.ends, c.less)
		}
		if want, ok := wave.Make(c.ahead, 10); !ok || !sameComb(got, api.Comb{Ends: c.ends, Wave: want, Less: c.less}) {
			t.Errorf("%s: wave %+v, want %+v", c.name, got.Wave, want)
		}
	}
}

// checkMake compares an index with its parts, each made on its own.
func checkMake(t *testing.T, l []int) {
	t.Helper()
	c := mustMake(t, l)
	ends := plainEnds(l)
	w, _ := wave.Make(sort.Ahead(l, ends), 10)
	var less []int
	for n := range slices.Max(l) + 2 {
		below := 0
		for _, other := range l {
			if other < n {
				below++
			}
		}
		less = append(less, below)
	}
	if !sameComb(c, api.Comb{Ends: ends, Wave: w, Less: less}) {
		t.Errorf("%v: %+v", l, c)
	}
}

func TestMake(t *testing.T) {
	eachText(3, 5, func(l []int) { checkMake(t, l) })
	for _, l := range longTexts() {
		checkMake(t, l)
	}
}

func TestMakeRefuses(t *testing.T) {
	for name, l := range map[string][]int{
		"nil":                     nil,
		"no numbers":              {},
		"no Last":                 {1},
		"no Last, longer":         {2, 3, 1},
		"Last at the front":       {0, 1},
		"Last twice":              {0, 0},
		"Last within":             {2, 0, 3, 0},
		"below 0":                 {2, -1, 0},
		"below 0 at the end":      {2, 1, -1},
		"the least":               {math.MinInt, 0},
		"2^10":                    {1024, 0},
		"2^10 at the end of some": {1, 2, 3, 1024, 0},
		"more than 2^10":          {1025, 1, 0},
		"with low bits alike":     {2048, 0},
		"beyond 32 bits":          {1 << 32, 0},
		"the greatest":            {math.MaxInt, 1, 0},
		"2^12 and 1 numbers":      repeated(4096, 2),
		"many more":               repeated(9000, 1),
	} {
		if c, ok := comb.Make(l); ok || !isZero(c) {
			t.Errorf("%s: %v", name, ok)
		}
	}
}

func TestMakeUpToItsBounds(t *testing.T) {
	for _, l := range [][]int{{1023, 0}, {1, 1023, 2, 0}, repeated(4095, 2), mixed(4096, 1023)} {
		c := mustMake(t, l)
		if len(c.Ends) != len(l) || c.Wave.N != len(l) || c.Wave.Deep != 10 || len(c.Wave.Levels) != 10 || !wave.Good(c.Wave) {
			t.Errorf("%d numbers: %d ends, %d of the wave", len(l), len(c.Ends), c.Wave.N)
		}
		if greatest := slices.Max(l); len(c.Less) != greatest+2 || c.Less[greatest+1] != len(l) {
			t.Errorf("%d numbers: less %v", len(l), c.Less)
		}
		if !slices.Equal(comb.Text(c), l) {
			t.Errorf("%d numbers: another text", len(l))
		}
	}
}

// checkSigns asks an index all that it knows of signs.
func checkSigns(t *testing.T, l, ends []int, c api.Comb, signs []int) {
	t.Helper()
	if got, want := comb.Find(c, signs), plainFind(l, ends, signs); got != want {
		t.Errorf("%v of %v: %v, want %v", signs, l, got, want)
	}
	if got, want := comb.Count(c, signs), len(plainPlaces(l, signs)); got != want {
		t.Errorf("%v of %v: %d times, want %d", signs, l, got, want)
	}
	if got, want := comb.Places(c, signs), plainPlaces(l, signs); !slices.Equal(got, want) {
		t.Errorf("%v of %v: at %v, want %v", signs, l, got, want)
	}
	if got, want := comb.Befores(c, signs), plainBefores(l, signs); !slices.Equal(got, want) {
		t.Errorf("%v of %v: %v ahead, want %v", signs, l, got, want)
	}
	if got, want := comb.Behinds(c, signs), plainBehinds(l, signs); !slices.Equal(got, want) {
		t.Errorf("%v of %v: %v behind, want %v", signs, l, got, want)
	}
}

// checkLonger goes on from signs by one ahead of them. Of a list of nothing but
// Last, the span of Last is that of no signs: only these are asked for there.
func checkLonger(t *testing.T, l, ends []int, c api.Comb, signs []int, sign int) {
	t.Helper()
	if len(l) == 1 && len(signs) > 0 {
		return
	}
	want := plainFind(l, ends, append([]int{sign}, signs...))
	if got := comb.Longer(c, plainFind(l, ends, signs), sign); got != want {
		t.Errorf("%d ahead of %v of %v: %v, want %v", sign, signs, l, got, want)
	}
}

func TestSignsOfShortTexts(t *testing.T) {
	check := func(greatest, most, mostSigns int) {
		eachText(greatest, most, func(l []int) {
			c, ends := mustMake(t, l), plainEnds(l)
			eachList(-1, greatest+1, mostSigns, func(signs []int) {
				checkSigns(t, l, ends, c, signs)
				for sign := -1; sign <= greatest+1; sign++ {
					checkLonger(t, l, ends, c, signs, sign)
				}
			})
		})
	}
	check(1, 5, 4)
	check(2, 4, 3)
	check(3, 3, 2)
}

// Signs that stand in the text at all are better asked for from the text itself.
func TestSignsOfLongTexts(t *testing.T) {
	for _, l := range longTexts() {
		c, ends := mustMake(t, l), plainEnds(l)
		for _, length := range []int{0, 1, 2, 3, 7} {
			for from := 0; from+length <= len(l); from += 9 {
				signs := slices.Clone(l[from : from+length])
				checkSigns(t, l, ends, c, signs)
				for _, sign := range []int{math.MinInt, -1, 0, 1, 2, 3, 512, 1023, 1024, l[max(from-1, 0)], math.MaxInt} {
					checkLonger(t, l, ends, c, signs, sign)
				}
				if length > 0 {
					signs[length/2] = signs[length/2]%3 + 1
					checkSigns(t, l, ends, c, signs)
				}
			}
		}
	}
}

func TestEndsAndMore(t *testing.T) {
	for _, l := range append(longTexts(), []int{0}, []int{1, 0}) {
		c, ends := mustMake(t, l), plainEnds(l)
		for _, signs := range [][]int{
			nil, {}, l, l[1:], l[len(l)-1:], l[:len(l)-1], l[len(l)/2:], {0, 0}, {0, l[0]}, {l[0], 0},
			slices.Concat(l, l), slices.Concat(l, []int{0}), slices.Concat(l, l[:1]), slices.Concat([]int{0}, l),
			slices.Concat([]int{1}, l), slices.Concat(l[len(l)-1:], l[:len(l)-1]),
			{math.MinInt}, {math.MaxInt}, {-1}, {1024}, {1023}, {l[0], -1}, {-1, l[0]}, {1024, 0}, {slices.Max(l) + 1}, {l[0] + 1024},
		} {
			checkSigns(t, l, ends, c, signs)
		}
	}
}

func TestByHand(t *testing.T) {
	// a b / a b, in two lines: a is 2, b is 3.
	c := mustMake(t, []int{2, 3, 1, 2, 3, 1, 0})
	for _, q := range []struct {
		name                     string
		signs                    []int
		find                     api.Span
		places, befores, behinds []int
	}{
		{"no signs", nil, api.Span{From: 0, To: 7}, []int{0, 1, 2, 3, 4, 5, 6}, []int{0, 1, 2, 3}, []int{0, 1, 2, 3}},
		{"a b", []int{2, 3}, api.Span{From: 3, To: 5}, []int{0, 3}, []int{0, 1}, []int{1}},
		{"b", []int{3}, api.Span{From: 5, To: 7}, []int{1, 4}, []int{2}, []int{1}},
		{"the ends of lines", []int{1}, api.Span{From: 1, To: 3}, []int{2, 5}, []int{3}, []int{0, 2}},
		{"Last", []int{0}, api.Span{From: 0, To: 1}, []int{6}, []int{1}, nil},
		{"all", []int{2, 3, 1, 2, 3, 1, 0}, api.Span{From: 4, To: 5}, []int{0}, []int{0}, nil},
		{"Last and a", []int{0, 2}, api.Span{}, nil, nil, nil},
		{"b a", []int{3, 2}, api.Span{}, nil, nil, nil},
		{"no such word", []int{4}, api.Span{}, nil, nil, nil},
	} {
		if got := comb.Find(c, q.signs); got != q.find {
			t.Errorf("%s: %v", q.name, got)
		}
		if got := comb.Count(c, q.signs); got != len(q.places) {
			t.Errorf("%s: %d times", q.name, got)
		}
		if got := comb.Places(c, q.signs); !slices.Equal(got, q.places) {
			t.Errorf("%s: at %v", q.name, got)
		}
		if got := comb.Befores(c, q.signs); !slices.Equal(got, q.befores) {
			t.Errorf("%s: %v ahead", q.name, got)
		}
		if got := comb.Behinds(c, q.signs); !slices.Equal(got, q.behinds) {
			t.Errorf("%s: %v behind", q.name, got)
		}
	}
}

func TestLongerByHand(t *testing.T) {
	c := mustMake(t, []int{2, 3, 1, 2, 3, 1, 0})
	all, a, none := api.Span{From: 0, To: 7}, api.Span{From: 3, To: 5}, api.Span{}
	for _, q := range []struct {
		name string
		s    api.Span
		sign int
		want api.Span
	}{
		{"Last of all", all, 0, api.Span{From: 0, To: 1}},
		{"a of all", all, 2, a},
		{"b of all", all, 3, api.Span{From: 5, To: 7}},
		{"a line's end ahead of a", a, 1, api.Span{From: 2, To: 3}},
		{"Last ahead of a", a, 0, none},
		{"a ahead of a", a, 2, none},
		{"Last ahead of Last", api.Span{From: 0, To: 1}, 0, none},
		{"a line's end ahead of Last", api.Span{From: 0, To: 1}, 1, api.Span{From: 1, To: 2}},
		{"ahead of none", none, 1, none},
		{"Last ahead of none", none, 0, none},
		{"ahead of none elsewhere", api.Span{From: 4, To: 4}, 0, none},
		{"turned round", api.Span{From: 5, To: 3}, 1, none},
		{"all turned round", api.Span{From: 7, To: 0}, 0, none},
		{"beyond all ends", api.Span{From: 7, To: 9}, 1, none},
		{"ahead of all ends", api.Span{From: -3, To: 0}, 1, none},
		{"more than all ends", api.Span{From: -1, To: 8}, 2, a},
		{"Last of more than all ends", api.Span{From: math.MinInt, To: math.MaxInt}, 0, api.Span{From: 0, To: 1}},
		{"all but the first", api.Span{From: 1, To: 7}, 0, none},
		{"all but the last", api.Span{From: 0, To: 6}, 0, none},
		{"no sign", all, -1, none},
		{"one more than the greatest", all, 4, none},
		{"the greatest of numbers", all, math.MaxInt, none},
		{"the least of numbers", all, math.MinInt, none},
	} {
		if got := comb.Longer(c, q.s, q.sign); got != q.want {
			t.Errorf("%s: %v, want %v", q.name, got, q.want)
		}
	}
}

func TestText(t *testing.T) {
	check := func(l []int) {
		if got := comb.Text(mustMake(t, l)); !slices.Equal(got, l) {
			t.Errorf("%v, want %v", got, l)
		}
	}
	eachText(3, 6, check)
	for _, l := range longTexts() {
		check(l)
	}
}

func TestNothingOfTheZeroValue(t *testing.T) {
	var c api.Comb
	for _, signs := range [][]int{nil, {}, {0}, {1}, {-1}, {0, 0}, {2, 3}} {
		checkSigns(t, nil, nil, c, signs)
	}
	for _, sign := range []int{-1, 0, 1} {
		if got := comb.Longer(c, api.Span{From: 0, To: 1}, sign); got != (api.Span{}) {
			t.Errorf("%d: %v", sign, got)
		}
	}
	if got := comb.Text(c); len(got) != 0 {
		t.Errorf("%v", got)
	}
}

// damaged is indexes that Make has not made.
func damaged(t *testing.T) map[string]api.Comb {
	least, greatest := math.MinInt, math.MaxInt
	combs := map[string]api.Comb{}
	for name, damage := range map[string]func(c *api.Comb){
		"no ends":                     func(c *api.Comb) { c.Ends = nil },
		"one end fewer":               func(c *api.Comb) { c.Ends = c.Ends[1:] },
		"one end more":                func(c *api.Comb) { c.Ends = append(c.Ends, 2) },
		"ends beyond all places":      func(c *api.Comb) { c.Ends[0], c.Ends[1], c.Ends[2], c.Ends[3] = least, greatest, -1, 70 },
		"ends alike":                  func(c *api.Comb) { c.Ends = make([]int, 70) },
		"no less":                     func(c *api.Comb) { c.Less = nil },
		"one less":                    func(c *api.Comb) { c.Less = c.Less[:1] },
		"the last less is gone":       func(c *api.Comb) { c.Less = c.Less[:4] },
		"many more less":              func(c *api.Comb) { c.Less = append(c.Less, make([]int, 2000)...) },
		"less all 0":                  func(c *api.Comb) { c.Less = make([]int, 5) },
		"less falling":                func(c *api.Comb) { slices.Reverse(c.Less) },
		"less below 0":                func(c *api.Comb) { c.Less = []int{-1, -2, -30, -200, -1} },
		"less far too small":          func(c *api.Comb) { c.Less = []int{least, least, least, least, least} },
		"less far too great":          func(c *api.Comb) { c.Less = []int{greatest, greatest, greatest, greatest, greatest} },
		"less just too great":         func(c *api.Comb) { c.Less = []int{70, 69, 60, 71, 70} },
		"less that just overflows":    func(c *api.Comb) { c.Less = []int{greatest - 1, greatest - 5, greatest - 9, greatest - 20, 0} },
		"no wave":                     func(c *api.Comb) { c.Wave = api.Wave{} },
		"a level is gone":             func(c *api.Comb) { c.Wave.Levels = c.Wave.Levels[1:] },
		"a wave of one number more":   func(c *api.Comb) { c.Wave.N++ },
		"a level without parts":       func(c *api.Comb) { c.Wave.Levels[9].Parts = nil },
		"a level that lies":           func(c *api.Comb) { c.Wave.Levels[8].Ahead[1] = greatest },
		"a level that lies below 0":   func(c *api.Comb) { c.Wave.Levels[9].Ahead[0] = least },
		"a level of other bits":       func(c *api.Comb) { c.Wave.Levels[9] = bits.Make(make([]bool, 70)) },
		"a wave that is not so deep":  func(c *api.Comb) { c.Wave, _ = wave.Make(mixed(70, 3), 2) },
		"a wave that is deeper":       func(c *api.Comb) { c.Wave, _ = wave.Make(mixed(70, 3), 16) },
		"a wave of numbers not there": func(c *api.Comb) { c.Wave, _ = wave.Make(mixed(70, 1023), 10) },
		"a longer wave":               func(c *api.Comb) { c.Wave, _ = wave.Make(mixed(700, 3), 10) },
		"a shorter wave":              func(c *api.Comb) { c.Wave, _ = wave.Make(mixed(7, 3), 10) },
	} {
		c := mustMake(t, mixed(70, 3))
		damage(&c)
		combs[name] = c
	}
	return combs
}

// What indexes that Make has not made answer is not promised, but that they do.
func TestNothingPanics(t *testing.T) {
	numbers := []int{math.MinInt, -70, -1, 0, 1, 2, 3, 4, 69, 70, 71, 1023, 1024, math.MaxInt}
	for _, c := range damaged(t) {
		comb.Text(c)
		for _, from := range numbers {
			for _, to := range numbers {
				for _, sign := range numbers {
					comb.Longer(c, api.Span{From: from, To: to}, sign)
				}
			}
		}
		eachList(-1, 4, 3, func(signs []int) {
			comb.Find(c, signs)
			comb.Count(c, signs)
			comb.Places(c, signs)
			comb.Befores(c, signs)
			comb.Behinds(c, signs)
		})
	}
}

// Far more signs than the list has are refused as soon as they stand nowhere.
func TestManySigns(t *testing.T) {
	c := mustMake(t, repeated(50, 2))
	signs := slices.Repeat([]int{2}, 1<<22)
	if got := comb.Find(c, signs); got != (api.Span{}) {
		t.Errorf("%v", got)
	}
	if comb.Count(c, signs) != 0 || len(comb.Places(c, signs)) != 0 || len(comb.Befores(c, signs)) != 0 || len(comb.Behinds(c, signs)) != 0 {
		t.Error("more signs than the list has stand in it")
	}
}

func TestListsAreLeftAlone(t *testing.T) {
	room := slices.Concat(mixed(9, 3), mixed(80, 3), mixed(9, 3))
	before := slices.Clone(room)
	l := room[9:89]
	c := mustMake(t, l)
	signs := room[10:12]
	want := slices.Clone(before[10:12])
	comb.Longer(c, comb.Find(c, signs), 1)
	checkSigns(t, slices.Clone(l), plainEnds(l), c, signs)
	checkSigns(t, slices.Clone(l), plainEnds(l), c, room[9:9])
	comb.Text(c)
	if !slices.Equal(room, before) || !slices.Equal(signs, want) {
		t.Error("a list or its spare room was changed")
	}
	checkMake(t, l)
	if !sameComb(c, mustMake(t, l)) {
		t.Error("the index was changed")
	}
}

func TestAnswersAreNewMemory(t *testing.T) {
	l := mixed(80, 3)
	c, want := mustMake(t, l), mustMake(t, l)
	signs := []int{2}
	for _, answer := range [][]int{
		comb.Places(c, nil), comb.Places(c, signs), comb.Befores(c, signs), comb.Behinds(c, signs), comb.Text(c),
	} {
		if len(answer) == 0 {
			t.Fatal("nothing is answered")
		}
		for i := range answer {
			answer[i] = -99
		}
		clear(answer[len(answer):cap(answer)])
	}
	if !sameComb(c, want) || signs[0] != 2 {
		t.Error("an answer shares memory with what was handed in")
	}
	for i := range l {
		l[i] = -99
	}
	if !sameComb(c, want) {
		t.Error("the index hangs on the list")
	}
}
