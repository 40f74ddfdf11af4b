package sort_test

import (
	"math"
	"slices"
	"testing"

	"gleanings/sort"
)

// eachList runs a test on all lists of up to so many numbers out of some.
func eachList(numbers []int, most int, test func(l []int)) {
	l := []int{}
	var grow func(most int)
	grow = func(most int) {
		test(slices.Clone(l))
		if most == 0 {
			return
		}
		for _, n := range numbers {
			l = append(l, n)
			grow(most - 1)
			l = l[:len(l)-1]
		}
	}
	grow(most)
}

// isAhead compares two ends number by number.
func isAhead(l []int, a, b int) bool {
	for ; a < len(l) && b < len(l); a, b = a+1, b+1 {
		if l[a] != l[b] {
			return l[a] < l[b]
		}
	}
	return a == len(l) && b < len(l)
}

// plainEnds puts each end at the place that tells how many are ahead of it.
func plainEnds(l []int) []int {
	ends := make([]int, len(l))
	for a := range l {
		ahead := 0
		for b := range l {
			if isAhead(l, b, a) {
				ahead++
			}
		}
		ends[ahead] = a
	}
	return ends
}

func plainAlike(l, ends []int) []int {
	alike := make([]int, len(ends))
	for i := 1; i < len(ends); i++ {
		a, b := l[ends[i-1]:], l[ends[i]:]
		for alike[i] < min(len(a), len(b)) && a[alike[i]] == b[alike[i]] {
			alike[i]++
		}
	}
	return alike
}

// mixed is a long list that hangs on its arguments alone, of numbers below a bound.
func mixed(length, bound int) []int {
	l := make([]int, length)
	state := uint32(length*31 + bound)
	for i := range l {
		state = state*1664525 + 1013904223
		l[i] = int(state>>16) % bound
	}
	return l
}

// repeated is a list again and again, up to some length.
func repeated(l []int, length int) []int {
	long := make([]int, length)
	for i := range long {
		long[i] = l[i%len(l)]
	}
	return long
}

func TestEndsAlikeAndAheadByHand(t *testing.T) {
	cases := []struct {
		name                   string
		l, ends, alike, aheads []int
	}{
		{"no numbers", nil, nil, nil, nil},
		{"no numbers, not nil", []int{}, nil, nil, nil},
		{"one number", []int{7}, []int{0}, []int{0}, []int{7}},
		{"just Last", []int{0}, []int{0}, []int{0}, []int{0}},
		{"rising", []int{1, 2, 3}, []int{0, 1, 2}, []int{0, 0, 0}, []int{3, 1, 2}},
		{"falling", []int{3, 2, 1}, []int{2, 1, 0}, []int{0, 0, 0}, []int{2, 3, 1}},
		{"the shorter first", []int{5, 5}, []int{1, 0}, []int{0, 1}, []int{5, 5}},
		{"all the same", []int{4, 4, 4, 4}, []int{3, 2, 1, 0}, []int{0, 1, 2, 3}, []int{4, 4, 4, 4}},
		{"two in turn", []int{1, 2, 1, 2}, []int{2, 0, 3, 1}, []int{0, 2, 0, 1}, []int{2, 2, 1, 1}},
		{"two in turn, with Last", []int{2, 3, 2, 3, 0}, []int{4, 2, 0, 3, 1}, []int{0, 0, 2, 0, 1}, []int{3, 3, 0, 2, 2}},
		{"a line twice", []int{2, 3, 1, 2, 3, 1, 0}, []int{6, 5, 2, 3, 0, 4, 1}, []int{0, 0, 1, 0, 3, 0, 2}, []int{1, 3, 3, 1, 0, 2, 2}},
		{"as letters of mississippi", []int{2, 1, 4, 4, 1, 4, 4, 1, 3, 3, 1},
			[]int{10, 7, 4, 1, 0, 9, 8, 6, 3, 5, 2}, []int{0, 1, 1, 4, 0, 0, 1, 0, 2, 1, 3},
			[]int{3, 4, 4, 2, 1, 3, 1, 4, 4, 1, 1}},
		{"below 0", []int{0, -1, 0, -2}, []int{3, 1, 2, 0}, []int{0, 0, 0, 1}, []int{0, 0, -1, -2}},
		{"the least and the greatest", []int{math.MaxInt, math.MinInt, math.MaxInt},
			[]int{1, 2, 0}, []int{0, 0, 1}, []int{math.MaxInt, math.MinInt, math.MaxInt}},
		{"the least twice", []int{math.MinInt, math.MinInt}, []int{1, 0}, []int{0, 1}, []int{math.MinInt, math.MinInt}},
		{"-1 behind", []int{0, -1}, []int{1, 0}, []int{0, 0}, []int{0, -1}},
		{"shorter or -1", []int{3, -1, 3}, []int{1, 2, 0}, []int{0, 0, 1}, []int{3, -1, 3}},
	}
	for _, c := range cases {
		if got := sort.Ends(c.l); !slices.Equal(got, c.ends) {
			t.Errorf("%s: Ends %v, want %v", c.name, got, c.ends)
		}
		if got := sort.Alike(c.l, c.ends); !slices.Equal(got, c.alike) {
			t.Errorf("%s: Alike %v, want %v", c.name, got, c.alike)
		}
		if got := sort.Ahead(c.l, c.ends); !slices.Equal(got, c.aheads) {
			t.Errorf("%s: Ahead %v, want %v", c.name, got, c.aheads)
		}
	}
}

func checkPlainly(t *testing.T, l []int) {
	t.Helper()
	ends := plainEnds(l)
	if got := sort.Ends(l); !slices.Equal(got, ends) {
		t.Errorf("%v: Ends %v, want %v", l, got, ends)
	}
	if got, want := sort.Alike(l, ends), plainAlike(l, ends); !slices.Equal(got, want) {
		t.Errorf("%v: Alike %v, want %v", l, got, want)
	}
}

func TestEndsAndAlikeOfAllShortLists(t *testing.T) {
	eachList([]int{0, 1}, 10, func(l []int) { checkPlainly(t, l) })
	eachList([]int{0, 1, 2}, 7, func(l []int) { checkPlainly(t, l) })
	eachList([]int{math.MinInt, -1, 0, math.MaxInt}, 5, func(l []int) { checkPlainly(t, l) })
}

// Around powers of two the last doubling is needed or not.
func TestEndsAndAlikeOfMiddlingLists(t *testing.T) {
	for length := range 70 {
		for _, bound := range []int{1, 2, 3, 5, 100} {
			checkPlainly(t, mixed(length, bound))
			checkPlainly(t, append(mixed(length, bound), 0))
		}
		for _, l := range [][]int{{1, 2}, {2, 1}, {1, 1, 2}, {3, 1, 2}, {2, 1, 1, 1}} {
			checkPlainly(t, repeated(l, length))
			checkPlainly(t, append(repeated(l, length), 0))
		}
	}
}

// Ends that have much in common would take a plain comparison too long.
func TestEndsAndAlikeOfALongList(t *testing.T) {
	const length = 1 << 17
	l := make([]int, length)
	ends := sort.Ends(l)
	alike := sort.Alike(l, ends)
	if len(ends) != length || len(alike) != length {
		t.Fatalf("%d ends, %d alike", len(ends), len(alike))
	}
	for i := range length {
		if ends[i] != length-1-i || alike[i] != i {
			t.Fatalf("%d: end %d, alike %d", i, ends[i], alike[i])
		}
	}
}

func TestAlikeOfWhatIsNotEnds(t *testing.T) {
	l := []int{2, 3, 2, 3, 0}
	for name, ends := range map[string][]int{
		"nil":               nil,
		"too few":           {4, 2, 0, 3},
		"without the first": {2, 0, 3, 1},
		"too many":          {4, 2, 0, 3, 1, 1},
		"one more place":    {4, 2, 0, 3, 1, 5},
		"two in turn":       {4, 0, 2, 3, 1},
		"two later in turn": {4, 2, 0, 1, 3},
		"places by order":   {0, 1, 2, 3, 4},
		"backwards":         {1, 3, 0, 2, 4},
		"a place twice":     {4, 2, 2, 3, 1},
		"below 0":           {4, 2, -1, 3, 1},
		"behind the list":   {5, 2, 0, 3, 1},
		"the least":         {math.MinInt, 2, 0, 3, 1},
		"the greatest":      {4, 2, 0, 3, math.MaxInt},
	} {
		if got := sort.Alike(l, ends); len(got) != 0 {
			t.Errorf("%s: %v", name, got)
		}
	}
	if got := sort.Alike(l, []int{4, 2, 0, 3, 1}); len(got) != 5 {
		t.Errorf("of the ends: %v", got)
	}
	for _, ends := range [][]int{{0}, {-1}, {0, 1}} {
		if got := sort.Alike(nil, ends); len(got) != 0 {
			t.Errorf("no numbers, %v: %v", ends, got)
		}
	}
	if got := sort.Alike([]int{1}, nil); len(got) != 0 {
		t.Errorf("no ends: %v", got)
	}
}

// Only one order of the places is that of the ends.
func TestAlikeOfAllShortLists(t *testing.T) {
	l := []int{1, 1, 0}
	eachList([]int{-1, 0, 1, 2, 3}, 4, func(ends []int) {
		want := []int(nil)
		if slices.Equal(ends, []int{2, 1, 0}) {
			want = []int{0, 0, 1}
		}
		if got := sort.Alike(l, ends); !slices.Equal(got, want) {
			t.Errorf("%v: %v, want %v", ends, got, want)
		}
	})
}

// Ahead asks for places alone; they need not be all, nor by order.
func TestAheadOfAnyPlaces(t *testing.T) {
	l := []int{2, 3, 1, 4, 0}
	for _, c := range []struct {
		name       string
		ends, want []int
	}{
		{"none", nil, nil},
		{"the whole", []int{0}, []int{0}},
		{"the shortest", []int{4}, []int{4}},
		{"by order", []int{0, 1, 2, 3, 4}, []int{0, 2, 3, 1, 4}},
		{"backwards", []int{4, 3, 2, 1, 0}, []int{4, 1, 3, 2, 0}},
		{"again and again", []int{2, 2, 0, 2, 0, 1, 3, 4}, []int{3, 3, 0, 3, 0, 2, 1, 4}},
		{"below 0", []int{-1}, nil},
		{"behind the list", []int{5}, nil},
		{"far off", []int{99, -99, math.MinInt, math.MaxInt}, nil},
		{"some are no places", []int{-1, 3, 5, 0, 6, 1, -5}, []int{1, 0, 2}},
	} {
		if got := sort.Ahead(l, c.ends); !slices.Equal(got, c.want) {
			t.Errorf("%s: %v, want %v", c.name, got, c.want)
		}
	}
	if got := sort.Ahead(nil, []int{0, -1, 1}); len(got) != 0 {
		t.Errorf("no numbers: %v", got)
	}
	if got := sort.Ahead([]int{-7}, []int{-1, 0, 1}); !slices.Equal(got, []int{-7}) {
		t.Errorf("one number: %v", got)
	}
}

// By order of the ends, what is ahead of them is the numbers of the list, each as often.
func TestAheadOfEnds(t *testing.T) {
	eachList([]int{0, 1, 2}, 6, func(l []int) {
		ends := sort.Ends(l)
		got := sort.Ahead(l, ends)
		if len(got) != len(l) {
			t.Fatalf("%v: %v", l, got)
		}
		for i, end := range ends {
			want := slices.Concat(l, l)[end+len(l)-1]
			if got[i] != want {
				t.Errorf("%v: %v at %d, want %d", l, got, i, want)
			}
		}
	})
}

func TestGoodByHand(t *testing.T) {
	for _, c := range []struct {
		name string
		l    []int
		want bool
	}{
		{"just Last", []int{0}, true},
		{"one more", []int{1, 0}, true},
		{"several", []int{2, 3, 1, 2, 1, 0}, true},
		{"the greatest", []int{math.MaxInt, 0}, true},
		{"nil", nil, false},
		{"no numbers", []int{}, false},
		{"without Last", []int{1}, false},
		{"several without Last", []int{2, 3, 1}, false},
		{"Last twice", []int{0, 0}, false},
		{"Last first", []int{0, 2, 1}, false},
		{"Last first, too", []int{0, 2, 1, 0}, false},
		{"Last within", []int{2, 0, 1, 0}, false},
		{"Last just ahead", []int{2, 1, 0, 0}, false},
		{"just below 0", []int{-1}, false},
		{"below 0 first", []int{-1, 0}, false},
		{"below 0 within", []int{2, -1, 1, 0}, false},
		{"the least", []int{math.MinInt, 0}, false},
		{"below 0 at the end", []int{2, 1, -1}, false},
	} {
		if sort.Good(c.l) != c.want {
			t.Errorf("%s: want %v", c.name, c.want)
		}
	}
}

func TestGoodOfAllShortLists(t *testing.T) {
	eachList([]int{-1, 0, 1, 2}, 5, func(l []int) {
		want := len(l) > 0
		for i, n := range l {
			if i == len(l)-1 && n != 0 || i < len(l)-1 && n <= 0 {
				want = false
			}
		}
		if sort.Good(l) != want {
			t.Errorf("%v: want %v", l, want)
		}
	})
}

func TestListsAreLeftAlone(t *testing.T) {
	room := []int{3, 1, 3, 1, 0, 9, 8}
	places := []int{4, 3, 1, 2, 0, 6, 5}
	rooms, allPlaces := slices.Clone(room), slices.Clone(places)
	for from := range room {
		for to := from; to <= len(room); to++ {
			l, ends := room[from:to], places[from:to]
			sort.Ends(l)
			sort.Alike(l, ends)
			sort.Ahead(l, ends)
			sort.Good(l)
		}
	}
	if !slices.Equal(room, rooms) || !slices.Equal(places, allPlaces) {
		t.Errorf("%v, %v", room, places)
	}
	if got := sort.Alike(room[:5], places[:5]); !slices.Equal(got, []int{0, 0, 1, 0, 2}) {
		t.Errorf("%v: the places are not those of ends", got)
	}
}

func TestAnswersAreNewMemory(t *testing.T) {
	l, ends := []int{3, 1, 3, 1, 0}, []int{4, 3, 1, 2, 0}
	for _, got := range [][]int{sort.Ends(l), sort.Alike(l, ends), sort.Ahead(l, ends), sort.Ends(ends), sort.Ahead(ends, ends)} {
		for i := range got {
			got[i] = 77
		}
	}
	if !slices.Equal(l, []int{3, 1, 3, 1, 0}) || !slices.Equal(ends, []int{4, 3, 1, 2, 0}) {
		t.Errorf("%v, %v", l, ends)
	}
	if again := sort.Ends(l); !slices.Equal(again, ends) {
		t.Errorf("%v, want %v", again, ends)
	}
}

func TestNothingPanics(t *testing.T) {
	lists := [][]int{nil, {}, {0}, {-1}, {math.MinInt}, {math.MaxInt, math.MinInt, 0}, {1, 0}, {0, 1, 2}, {5, 4, 3, 2, 1, 0, -1}}
	for _, l := range lists {
		sort.Ends(l)
		sort.Good(l)
		for _, ends := range lists {
			sort.Alike(l, ends)
			sort.Ahead(l, ends)
		}
	}
}
