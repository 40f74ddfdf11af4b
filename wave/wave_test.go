package wave_test

import (
	"math"
	"slices"
	"testing"

	"gleanings/api"
	"gleanings/bits"
	"gleanings/wave"
)

// eachList runs a test on all lists of up to so many numbers below 2^deep.
func eachList(deep, most int, test func(l []int)) {
	l := []int{}
	var grow func(most int)
	grow = func(most int) {
		test(slices.Clone(l))
		if most == 0 {
			return
		}
		for n := range 1 << deep {
			l = append(l, n)
			grow(most - 1)
			l = l[:len(l)-1]
		}
	}
	grow(most)
}

// mixed is a list that hangs on its arguments alone, of numbers below 2^deep.
func mixed(length, deep int) []int {
	l := make([]int, length)
	state := uint32(length*31 + deep)
	for i := range l {
		state = state*1664525 + 1013904223
		l[i] = int(state>>8) % (1 << deep)
	}
	return l
}

// few is a list of unlike numbers that are as far from each other as may be.
func few(length, deep int) []int {
	top := 1<<deep - 1
	numbers := []int{top, 0, top / 2, top/2 + 1, 0, top}
	l := make([]int, length)
	for i := range l {
		l[i] = numbers[i*i%len(numbers)]
	}
	return l
}

// eachLongList runs a test on lists of all depths, with lengths around those
// where one part of the bits ends and the next begins.
func eachLongList(test func(l []int, deep int)) {
	for deep := 1; deep <= 16; deep++ {
		for _, length := range []int{1, 2, 63, 64, 65, 130} {
			test(mixed(length, deep), deep)
			test(few(length, deep), deep)
			test(slices.Repeat([]int{1<<deep - 1}, length), deep)
			test(make([]int, length), deep)
		}
	}
}

// plainWave sorts the whole list anew for each level.
func plainWave(l []int, deep int) api.Wave {
	w := api.Wave{N: len(l), Deep: deep}
	for level := range deep {
		order := slices.Clone(l)
		slices.SortStableFunc(order, func(a, b int) int { return a>>(deep-level) - b>>(deep-level) })
		ones := make([]bool, len(l))
		for i, n := range order {
			ones[i] = n&(1<<(deep-level-1)) != 0
		}
		w.Levels = append(w.Levels, bits.Make(ones))
	}
	return w
}

func plainCount(l []int, n, i int) int {
	count := 0
	for _, other := range l[:max(0, min(i, len(l)))] {
		if other == n {
			count++
		}
	}
	return count
}

func plainKinds(l []int, from, to int) []int {
	from, to = max(0, min(from, len(l))), max(0, min(to, len(l)))
	if from > to {
		return nil
	}
	some := slices.Clone(l[from:to])
	slices.Sort(some)
	return slices.Compact(some)
}

func sameBits(a, b api.Bits) bool {
	return a.N == b.N && slices.Equal(a.Parts, b.Parts) && slices.Equal(a.Ahead, b.Ahead)
}

func sameWave(a, b api.Wave) bool {
	return a.N == b.N && a.Deep == b.Deep && slices.EqualFunc(a.Levels, b.Levels, sameBits)
}

func isZero(w api.Wave) bool {
	return w.N == 0 && w.Deep == 0 && len(w.Levels) == 0
}

func mustMake(t *testing.T, l []int, deep int) api.Wave {
	t.Helper()
	w, ok := wave.Make(l, deep)
	if !ok {
		t.Fatalf("%v, %d deep: refused", l, deep)
	}
	return w
}

// level is bits of which the ones are written.
func level(s string) api.Bits {
	l := make([]bool, len(s))
	for i := range l {
		l[i] = s[i] == '1'
	}
	return bits.Make(l)
}

func waveOf(n int, levels ...string) api.Wave {
	w := api.Wave{N: n, Deep: len(levels)}
	for _, s := range levels {
		w.Levels = append(w.Levels, level(s))
	}
	return w
}

func TestMakeByHand(t *testing.T) {
	for _, c := range []struct {
		name string
		l    []int
		deep int
		want api.Wave
	}{
		{"no numbers", nil, 1, waveOf(0, "")},
		{"no numbers, not nil", []int{}, 2, waveOf(0, "", "")},
		{"one bit", []int{1, 0, 0, 1}, 1, waveOf(4, "1001")},
		{"the highest first", []int{4, 1}, 3, waveOf(2, "10", "00", "10")},
		{"one number", []int{6}, 4, waveOf(1, "0", "1", "1", "0")},
		{"all two bits, falling", []int{3, 2, 1, 0}, 2, waveOf(4, "1100", "1010")},
		{"else as in the list", []int{3, 0, 2, 1, 3}, 2, waveOf(5, "10101", "01101")},
		{"of the shared test", []int{5, 2, 7, 5, 0, 2, 5, 6}, 3, waveOf(8, "10110011", "10101001", "00011110")},
		{"nothing high", []int{1, 0, 1}, 3, waveOf(3, "000", "000", "101")},
		{"mixed groups of unlike size", []int{7, 7, 0, 6, 4, 7, 1}, 3, waveOf(7, "1101110", "0011101", "0101101")},
	} {
		got := mustMake(t, c.l, c.deep)
		if !sameWave(got, c.want) {
			t.Errorf("%s: %+v, want %+v", c.name, got, c.want)
		}
	}
}

func TestMakeOfAllShortLists(t *testing.T) {
	check := func(l []int, deep int) {
		if got, want := mustMake(t, l, deep), plainWave(l, deep); !sameWave(got, want) {
			t.Errorf("%v, %d deep: %+v, want %+v", l, deep, got, want)
		}
	}
	eachList(1, 8, func(l []int) { check(l, 1); check(l, 16) })
	eachList(2, 5, func(l []int) { check(l, 2) })
	eachList(3, 4, func(l []int) { check(l, 3); check(l, 4) })
}

func TestMakeOfLongLists(t *testing.T) {
	eachLongList(func(l []int, deep int) {
		if !sameWave(mustMake(t, l, deep), plainWave(l, deep)) {
			t.Errorf("%v, %d deep", l, deep)
		}
	})
}

func TestMakeRefusesDepths(t *testing.T) {
	for _, deep := range []int{math.MinInt, -64, -1, 0, 17, 18, 32, 63, 64, 65, math.MaxInt} {
		for _, l := range [][]int{nil, {}, {0}, {0, 1}, {-1}} {
			if w, ok := wave.Make(l, deep); ok || !isZero(w) {
				t.Errorf("%v, %d deep: %+v, %v", l, deep, w, ok)
			}
		}
	}
	for deep := 1; deep <= 16; deep++ {
		if w := mustMake(t, nil, deep); w.N != 0 || w.Deep != deep || len(w.Levels) != deep {
			t.Errorf("no numbers, %d deep: %+v", deep, w)
		}
	}
}

func TestMakeRefusesNumbers(t *testing.T) {
	for deep := 1; deep <= 16; deep++ {
		mustMake(t, []int{0, 1<<deep - 1}, deep)
		for _, bad := range []int{math.MinInt, -1 << deep, -1, 1 << deep, 1<<deep + 1, 1 << 32, math.MaxInt} {
			for _, l := range [][]int{{bad}, {bad, 0, 1}, {0, bad, 1}, {0, 1, bad}, {bad, bad}} {
				if w, ok := wave.Make(l, deep); ok || !isZero(w) {
					t.Errorf("%v, %d deep: %+v, %v", l, deep, w, ok)
				}
			}
		}
	}
}

func TestGoodOfMade(t *testing.T) {
	eachList(2, 4, func(l []int) {
		if !wave.Good(mustMake(t, l, 2)) {
			t.Errorf("%v: not good", l)
		}
	})
	eachLongList(func(l []int, deep int) {
		if !wave.Good(mustMake(t, l, deep)) {
			t.Errorf("%v, %d deep: not good", l, deep)
		}
	})
}

// Whatever the bits are, there is a list of which Make makes them.
func TestGoodOfAnyBits(t *testing.T) {
	for length := range 4 {
		eachList(length, 3, func(rows []int) {
			if len(rows) == 0 {
				return
			}
			w := api.Wave{N: length, Deep: len(rows)}
			for _, row := range rows {
				ones := make([]bool, length)
				for i := range ones {
					ones[i] = row>>i&1 == 1
				}
				w.Levels = append(w.Levels, bits.Make(ones))
			}
			if !wave.Good(w) {
				t.Errorf("%+v: not good", w)
			}
			l := make([]int, length)
			for i := range l {
				l[i] = wave.At(w, i)
			}
			if !sameWave(mustMake(t, l, len(rows)), w) {
				t.Errorf("%+v is not of %v", w, l)
			}
		})
	}
}

// damaged is waves that Make has not made, by what was done to one that it has.
func damaged(t *testing.T) map[string]api.Wave {
	waves := map[string]api.Wave{
		"zero value":          {},
		"no levels":           {N: 0, Deep: 1},
		"no bits' zero value": {N: 0, Deep: 1, Levels: []api.Bits{{}}},
		"not deep":            {N: 0, Deep: 0, Levels: []api.Bits{}},
		"too deep":            waveOf(1, slices.Repeat([]string{"0"}, 17)...),
		"N below 0":           {N: -1, Deep: 1, Levels: []api.Bits{{N: -1, Parts: []uint64{0}, Ahead: []int{0}}}},
		"the greatest N":      {N: math.MaxInt, Deep: 1, Levels: []api.Bits{{N: math.MaxInt, Parts: []uint64{0}, Ahead: []int{0}}}},
	}
	for name, damage := range map[string]func(w *api.Wave){
		"the first level is gone":    func(w *api.Wave) { w.Levels = w.Levels[1:] },
		"the last level is gone":     func(w *api.Wave) { w.Levels = w.Levels[:2] },
		"all levels are gone":        func(w *api.Wave) { w.Levels = nil },
		"one level more":             func(w *api.Wave) { w.Levels = append(w.Levels, w.Levels[0]) },
		"one deeper":                 func(w *api.Wave) { w.Deep++ },
		"one less deep":              func(w *api.Wave) { w.Deep-- },
		"0 deep":                     func(w *api.Wave) { w.Deep = 0 },
		"the least deep":             func(w *api.Wave) { w.Deep = math.MinInt },
		"the deepest":                func(w *api.Wave) { w.Deep = math.MaxInt },
		"one number more":            func(w *api.Wave) { w.N++ },
		"one number fewer":           func(w *api.Wave) { w.N-- },
		"numbers below 0":            func(w *api.Wave) { w.N = -w.N },
		"the first level is longer":  func(w *api.Wave) { w.Levels[0].N++ },
		"the last level is shorter":  func(w *api.Wave) { w.Levels[2].N-- },
		"a shorter level, well made": func(w *api.Wave) { w.Levels[1] = bits.Make(make([]bool, 69)) },
		"a longer level, well made":  func(w *api.Wave) { w.Levels[1] = bits.Make(make([]bool, 71)) },
		"a level's zero value":       func(w *api.Wave) { w.Levels[1] = api.Bits{} },
		"no parts":                   func(w *api.Wave) { w.Levels[0].Parts = nil },
		"no ahead":                   func(w *api.Wave) { w.Levels[2].Ahead = nil },
		"too few parts":              func(w *api.Wave) { w.Levels[1].Parts = w.Levels[1].Parts[:1] },
		"too many parts":             func(w *api.Wave) { w.Levels[1].Parts = append(w.Levels[1].Parts, 0) },
		"a bit behind all":           func(w *api.Wave) { w.Levels[0].Parts[1] |= 1 << 6 },
		"another bit":                func(w *api.Wave) { w.Levels[2].Parts[0] ^= 1 },
		"one more ahead":             func(w *api.Wave) { w.Levels[1].Ahead[1]++ },
		"far too many ahead":         func(w *api.Wave) { w.Levels[0].Ahead[1] = math.MaxInt },
		"far too few ahead":          func(w *api.Wave) { w.Levels[0].Ahead[0] = math.MinInt },
	} {
		w := mustMake(t, mixed(70, 3), 3)
		damage(&w)
		waves[name] = w
	}
	return waves
}

func TestGoodOfDamaged(t *testing.T) {
	for name, w := range damaged(t) {
		if wave.Good(w) {
			t.Errorf("%s: good", name)
		}
	}
}

func TestAt(t *testing.T) {
	check := func(l []int, deep int) {
		w := mustMake(t, l, deep)
		for i, n := range l {
			if got := wave.At(w, i); got != n {
				t.Errorf("%v, %d deep: %d at %d", l, deep, got, i)
			}
		}
		for _, i := range []int{math.MinInt, -64, -1, len(l), len(l) + 1, len(l) + 64, math.MaxInt} {
			if got := wave.At(w, i); got != -1 {
				t.Errorf("%v, %d deep: %d at %d, where there is none", l, deep, got, i)
			}
		}
	}
	eachList(1, 7, func(l []int) { check(l, 1) })
	eachList(2, 5, func(l []int) { check(l, 2) })
	eachList(3, 3, func(l []int) { check(l, 3) })
	eachLongList(check)
}

func TestCount(t *testing.T) {
	check := func(l []int, deep int) {
		w := mustMake(t, l, deep)
		numbers := append(plainKinds(l, 0, len(l)), 0, 1, 1<<deep-2, 1<<deep-1)
		beyond := []int{math.MinInt, -1 << deep, -2, -1, 1 << deep, 1<<deep + 1, 1<<deep + l[0], l[0] - 1<<deep, math.MaxInt}
		for _, n := range append(numbers, beyond...) {
			for i := -2; i <= len(l)+2; i++ {
				if got, want := wave.Count(w, n, i), plainCount(l, n, i); got != want {
					t.Errorf("%v, %d deep: %d times %d below %d, want %d", l, deep, got, n, i, want)
				}
			}
			if got, want := wave.Count(w, n, math.MaxInt), plainCount(l, n, len(l)); got != want {
				t.Errorf("%v, %d deep: %d times %d, want %d", l, deep, got, n, want)
			}
			if got := wave.Count(w, n, math.MinInt); got != 0 {
				t.Errorf("%v, %d deep: %d times %d ahead of all", l, deep, got, n)
			}
		}
	}
	for deep, most := range map[int]int{1: 6, 2: 5, 3: 3} {
		eachList(deep, most, func(l []int) {
			if len(l) > 0 {
				check(l, deep)
			}
		})
	}
	eachLongList(check)
}

func TestCountOfNoNumbers(t *testing.T) {
	w := mustMake(t, nil, 3)
	for n := -1; n <= 8; n++ {
		for _, i := range []int{math.MinInt, -1, 0, 1, math.MaxInt} {
			if got := wave.Count(w, n, i); got != 0 {
				t.Errorf("%d times %d below %d", got, n, i)
			}
		}
	}
}

func TestKindsOfShortLists(t *testing.T) {
	check := func(l []int, deep int) {
		w := mustMake(t, l, deep)
		for from := -2; from <= len(l)+2; from++ {
			for to := -2; to <= len(l)+2; to++ {
				if got, want := wave.Kinds(w, from, to), plainKinds(l, from, to); !slices.Equal(got, want) {
					t.Errorf("%v, %d deep: %v from %d to %d, want %v", l, deep, got, from, to, want)
				}
			}
		}
	}
	eachList(1, 6, func(l []int) { check(l, 1) })
	eachList(2, 4, func(l []int) { check(l, 2) })
	eachList(3, 3, func(l []int) { check(l, 3) })
}

func TestKindsOfLongLists(t *testing.T) {
	eachLongList(func(l []int, deep int) {
		w := mustMake(t, l, deep)
		places := []int{math.MinInt, -1, 0, 1, 5, 62, 63, 64, 65, len(l) - 1, len(l), len(l) + 1, math.MaxInt}
		for _, from := range places {
			for _, to := range places {
				if got, want := wave.Kinds(w, from, to), plainKinds(l, from, to); !slices.Equal(got, want) {
					t.Errorf("%v, %d deep: %v from %d to %d, want %v", l, deep, got, from, to, want)
				}
			}
		}
	})
}

func TestKindsOfAllNumbers(t *testing.T) {
	const deep = 16
	l := make([]int, 1<<deep)
	for i := range l {
		l[i] = len(l) - 1 - i
	}
	w := mustMake(t, l, deep)
	for _, c := range []struct{ from, to int }{{0, len(l)}, {1, len(l)}, {1000, 3000}, {len(l) - 1, len(l)}} {
		if got := wave.Kinds(w, c.from, c.to); !slices.Equal(got, plainKinds(l, c.from, c.to)) {
			t.Errorf("from %d to %d: %d kinds", c.from, c.to, len(got))
		}
	}
}

// A wave whose levels are not those it tells of holds no numbers.
func TestNothingWithoutTheLevels(t *testing.T) {
	waves := damaged(t)
	for _, name := range []string{
		"zero value", "no levels", "not deep", "too deep", "the first level is gone", "the last level is gone",
		"all levels are gone", "one level more", "one deeper", "one less deep", "0 deep", "one number more",
		"one number fewer", "a shorter level, well made", "a longer level, well made", "a level's zero value",
	} {
		w := waves[name]
		for i := -1; i < 72; i++ {
			if got := wave.At(w, i); got != -1 {
				t.Errorf("%s: %d at %d", name, got, i)
			}
			for n := range 8 {
				if got := wave.Count(w, n, i); got != 0 {
					t.Errorf("%s: %d times %d below %d", name, got, n, i)
				}
			}
			if got := wave.Kinds(w, 0, i); len(got) != 0 {
				t.Errorf("%s: %v below %d", name, got, i)
			}
		}
	}
}

// What waves that Make has not made answer is not promised, but that they do.
func TestNothingPanics(t *testing.T) {
	numbers := []int{math.MinInt, -65, -1, 0, 1, 2, 7, 63, 64, 69, 70, 71, math.MaxInt}
	for _, w := range damaged(t) {
		wave.Good(w)
		for _, i := range numbers {
			wave.At(w, i)
			for _, n := range numbers {
				wave.Count(w, n, i)
				wave.Kinds(w, n, i)
			}
		}
	}
}

// Levels that are as deep as may be, and lie about what is ahead, have the
// most halves to go into.
func TestDamagedDepthsEnd(t *testing.T) {
	for _, ahead := range [][]int{{math.MinInt, math.MaxInt}, {math.MaxInt, math.MinInt}, {-1 << 40, 1 << 40}, {0, 1 << 62}} {
		b := api.Bits{N: 64, Parts: []uint64{math.MaxUint64, math.MaxUint64}, Ahead: ahead}
		w := api.Wave{N: 64, Deep: 16, Levels: slices.Repeat([]api.Bits{b}, 16)}
		if got := wave.Kinds(w, 0, 64); len(got) > 1<<16 {
			t.Errorf("%v: %d kinds", ahead, len(got))
		}
		for i := range 65 {
			if got := wave.At(w, i); got < -1 || got >= 1<<16 {
				t.Errorf("%v: %d at %d", ahead, got, i)
			}
			wave.Count(w, i, i)
		}
	}
}

func TestListsAreLeftAlone(t *testing.T) {
	room := mixed(140, 3)
	before := slices.Clone(room)
	w := mustMake(t, room[3:80], 3)
	if !slices.Equal(room, before) {
		t.Error("the list or its spare room was changed")
	}
	room[3] ^= 7
	if got := wave.At(w, 0); got != before[3] {
		t.Error("the wave hangs on the list")
	}
	wave.Good(w)
	for i := range 80 {
		wave.At(w, i)
		wave.Count(w, i%8, i)
		wave.Kinds(w, i/2, i)
	}
	if !sameWave(w, plainWave(before[3:80], 3)) {
		t.Error("the wave was changed")
	}
}

func TestAnswersAreNewMemory(t *testing.T) {
	l := slices.Repeat([]int{0, 3}, 50)
	w, other := mustMake(t, l, 4), mustMake(t, l, 4)
	// The first two levels are the same, and so are they in the other wave.
	w.Levels[0].Parts[0], w.Levels[0].Ahead[1] = 99, 99
	want := plainWave(l, 4)
	if !sameBits(w.Levels[1], want.Levels[1]) || !sameWave(other, want) {
		t.Error("levels share memory")
	}
	kinds := wave.Kinds(other, 0, 100)
	kinds[0] = 99
	if got := wave.Kinds(other, 0, 100); !slices.Equal(got, []int{0, 3}) || !sameWave(other, want) {
		t.Errorf("%v", got)
	}
}
