package bits_test

import (
	"math"
	"slices"
	"testing"

	"gleanings/api"
	"gleanings/bits"
)

// lengths stand around the places where one part ends and the next begins.
var lengths = []int{0, 1, 2, 31, 32, 33, 63, 64, 65, 127, 128, 129, 191, 192, 200, 256, 1000}

// patterns tell of a place whether there is a one.
var patterns = map[string]func(i int) bool{
	"noughts":      func(i int) bool { return false },
	"ones":         func(i int) bool { return true },
	"each second":  func(i int) bool { return i%2 == 1 },
	"thirds":       func(i int) bool { return i%3 == 0 },
	"part's ends":  func(i int) bool { return i%64 == 0 || i%64 == 63 },
	"empty parts":  func(i int) bool { return i/64%3 == 2 },
	"last of many": func(i int) bool { return i == 999 || i == 199 },
	"mixed":        func(i int) bool { return uint64(i+1)*0x9E3779B97F4A7C15>>63 == 1 },
}

func listOf(n int, one func(i int) bool) []bool {
	l := make([]bool, n)
	for i := range l {
		l[i] = one(i)
	}
	return l
}

// eachList runs a test on lists of all lengths and patterns.
func eachList(t *testing.T, test func(t *testing.T, l []bool)) {
	for name, one := range patterns {
		t.Run(name, func(t *testing.T) {
			for _, n := range lengths {
				test(t, listOf(n, one))
			}
		})
	}
}

func sameBits(a, b api.Bits) bool {
	return a.N == b.N && slices.Equal(a.Parts, b.Parts) && slices.Equal(a.Ahead, b.Ahead)
}

func TestMakeByHand(t *testing.T) {
	full := func(n int) []bool { return listOf(n, func(int) bool { return true }) }
	all := uint64(math.MaxUint64)
	cases := []struct {
		name string
		l    []bool
		want api.Bits
	}{
		{"nil", nil, api.Bits{N: 0, Parts: []uint64{0}, Ahead: []int{0}}},
		{"empty", []bool{}, api.Bits{N: 0, Parts: []uint64{0}, Ahead: []int{0}}},
		{"nought", []bool{false}, api.Bits{N: 1, Parts: []uint64{0}, Ahead: []int{0}}},
		{"lowest first", []bool{true, false, true, true, false}, api.Bits{N: 5, Parts: []uint64{0b1101}, Ahead: []int{0}}},
		{"one less than a part", full(63), api.Bits{N: 63, Parts: []uint64{all >> 1}, Ahead: []int{0}}},
		{"just a part", full(64), api.Bits{N: 64, Parts: []uint64{all, 0}, Ahead: []int{0, 64}}},
		{"one more than a part", full(65), api.Bits{N: 65, Parts: []uint64{all, 1}, Ahead: []int{0, 64}}},
		{"just two parts", full(128), api.Bits{N: 128, Parts: []uint64{all, all, 0}, Ahead: []int{0, 64, 128}}},
	}
	for _, c := range cases {
		if got := bits.Make(c.l); !sameBits(got, c.want) {
			t.Errorf("%s: %+v, want %+v", c.name, got, c.want)
		}
	}
}

func TestMakeOfLists(t *testing.T) {
	eachList(t, func(t *testing.T, l []bool) {
		b := bits.Make(l)
		if b.N != len(l) || len(b.Parts) != len(l)/64+1 || len(b.Ahead) != len(b.Parts) {
			t.Fatalf("%d: N %d, %d parts, %d ahead", len(l), b.N, len(b.Parts), len(b.Ahead))
		}
		ones := 0
		for i := range len(b.Parts) * 64 {
			if i%64 == 0 && b.Ahead[i/64] != ones {
				t.Errorf("%d: ahead of part %d: %d, want %d", len(l), i/64, b.Ahead[i/64], ones)
			}
			want := i < len(l) && l[i]
			if got := b.Parts[i/64]>>(i%64)&1 == 1; got != want {
				t.Errorf("%d: bit %d: %v", len(l), i, got)
			}
			if want {
				ones++
			}
		}
	})
}

func TestMakeLeavesItsListAlone(t *testing.T) {
	room := listOf(100, patterns["thirds"])
	before := slices.Clone(room)
	b := bits.Make(room[:70])
	if !slices.Equal(room, before) {
		t.Error("the list or its spare room was changed")
	}
	room[0] = false
	if !bits.At(b, 0) {
		t.Error("the bits hang on the list")
	}
}

func TestMakeAnswersNewMemory(t *testing.T) {
	l := listOf(100, patterns["thirds"])
	first, second := bits.Make(l), bits.Make(l)
	first.Parts[0], first.Ahead[1] = 0, 0
	if !sameBits(second, bits.Make(l)) {
		t.Error("two answers share memory")
	}
}

func TestGoodOfMade(t *testing.T) {
	eachList(t, func(t *testing.T, l []bool) {
		if !bits.Good(bits.Make(l)) {
			t.Errorf("%d: not good", len(l))
		}
	})
}

func TestGoodByHand(t *testing.T) {
	cases := []struct {
		name string
		b    api.Bits
		want bool
	}{
		{"of no bits", api.Bits{N: 0, Parts: []uint64{0}, Ahead: []int{0}}, true},
		{"highest bit", api.Bits{N: 64, Parts: []uint64{1 << 63, 0}, Ahead: []int{0, 1}}, true},
		{"of 63", api.Bits{N: 63, Parts: []uint64{1 << 62}, Ahead: []int{0}}, true},
		{"zero value", api.Bits{}, false},
		{"no ahead", api.Bits{N: 0, Parts: []uint64{0}}, false},
		{"no parts", api.Bits{N: 0, Ahead: []int{0}}, false},
		{"N below 0", api.Bits{N: -1, Parts: []uint64{0}, Ahead: []int{0}}, false},
		{"N far below 0", api.Bits{N: -64, Parts: []uint64{0}, Ahead: []int{0}}, false},
		{"N below 0, without parts", api.Bits{N: -64}, false},
		{"least N", api.Bits{N: math.MinInt, Parts: []uint64{0}, Ahead: []int{0}}, false},
		{"greatest N", api.Bits{N: math.MaxInt, Parts: []uint64{0}, Ahead: []int{0}}, false},
		{"64 without one more part", api.Bits{N: 64, Parts: []uint64{1}, Ahead: []int{0}}, false},
		{"63 with one more part", api.Bits{N: 63, Parts: []uint64{1, 0}, Ahead: []int{0, 1}}, false},
		{"one at N", api.Bits{N: 5, Parts: []uint64{1 << 5}, Ahead: []int{0}}, false},
		{"one far behind N", api.Bits{N: 5, Parts: []uint64{1 << 63}, Ahead: []int{0}}, false},
		{"one in the part behind 64", api.Bits{N: 64, Parts: []uint64{0, 1}, Ahead: []int{0, 0}}, false},
		{"one ahead of the first", api.Bits{N: 5, Parts: []uint64{1}, Ahead: []int{1}}, false},
		{"too few ahead", api.Bits{N: 64, Parts: []uint64{1, 0}, Ahead: []int{0, 0}}, false},
		{"too many ahead", api.Bits{N: 64, Parts: []uint64{1, 0}, Ahead: []int{0, 2}}, false},
		{"Ahead too short", api.Bits{N: 64, Parts: []uint64{1, 0}, Ahead: []int{0}}, false},
		{"Ahead too long", api.Bits{N: 64, Parts: []uint64{1, 0}, Ahead: []int{0, 1, 1}}, false},
	}
	for _, c := range cases {
		if bits.Good(c.b) != c.want {
			t.Errorf("%s: want %v", c.name, c.want)
		}
	}
}

func TestGoodLeavesItsListsAlone(t *testing.T) {
	b := bits.Make(listOf(200, patterns["mixed"]))
	parts, ahead := slices.Clone(b.Parts), slices.Clone(b.Ahead)
	parts[1], ahead[2] = parts[1]^1, ahead[2]+1
	damaged := api.Bits{N: 200, Parts: slices.Clone(parts), Ahead: slices.Clone(ahead)}
	if bits.Good(damaged) {
		t.Error("damaged bits are good")
	}
	if !slices.Equal(damaged.Parts, parts) || !slices.Equal(damaged.Ahead, ahead) {
		t.Error("the lists were changed")
	}
}

func TestAt(t *testing.T) {
	eachList(t, func(t *testing.T, l []bool) {
		b := bits.Make(l)
		for i := -70; i < len(l)+200; i++ {
			want := i >= 0 && i < len(l) && l[i]
			if bits.At(b, i) != want {
				t.Errorf("%d: At %d is not %v", len(l), i, want)
			}
		}
		if bits.At(b, math.MinInt) || bits.At(b, math.MaxInt) {
			t.Errorf("%d: a one far beyond", len(l))
		}
	})
}

func TestOnesAndNoughts(t *testing.T) {
	eachList(t, func(t *testing.T, l []bool) {
		b := bits.Make(l)
		check := func(i, ones, noughts int) {
			if got := bits.Ones(b, i); got != ones {
				t.Errorf("%d: %d ones below %d, want %d", len(l), got, i, ones)
			}
			if got := bits.Noughts(b, i); got != noughts {
				t.Errorf("%d: %d noughts below %d, want %d", len(l), got, i, noughts)
			}
		}
		ones := 0
		for i, one := range l {
			check(i, ones, i-ones)
			if one {
				ones++
			}
		}
		for _, i := range []int{0, 1, 63, 64, 65, 1000} {
			check(len(l)+i, ones, len(l)-ones)
		}
		check(math.MaxInt, ones, len(l)-ones)
		for _, i := range []int{0, -1, -63, -64, -65, math.MinInt} {
			check(i, 0, 0)
		}
	})
}

func TestFind(t *testing.T) {
	eachList(t, func(t *testing.T, l []bool) {
		b := bits.Make(l)
		ones := 0
		for i, one := range l {
			if !one {
				continue
			}
			if got := bits.Find(b, ones); got != i {
				t.Errorf("%d: one %d is at %d, want %d", len(l), ones, got, i)
			}
			ones++
		}
		for _, k := range []int{ones, ones + 1, ones + 64, math.MaxInt, -1, -64, math.MinInt} {
			if got := bits.Find(b, k); got != -1 {
				t.Errorf("%d: one %d is at %d, want none", len(l), k, got)
			}
		}
	})
}

// What bits that Make has not made answer is not promised, but that they do.
func TestNothingPanics(t *testing.T) {
	numbers := []int{math.MinInt, -65, -64, -1, 0, 1, 63, 64, 65, 128, 200, math.MaxInt}
	parts := [][]uint64{nil, {}, {0}, {math.MaxUint64}, {1, 1 << 63}, {0, math.MaxUint64, 5}}
	aheads := [][]int{nil, {}, {0}, {math.MinInt}, {math.MaxInt}, {0, -1}, {5, 2}, {-3, math.MinInt, 7, 1, 1}}
	for _, n := range numbers {
		for _, p := range parts {
			for _, a := range aheads {
				b := api.Bits{N: n, Parts: p, Ahead: a}
				bits.Good(b)
				for _, i := range numbers {
					bits.At(b, i)
					bits.Ones(b, i)
					bits.Noughts(b, i)
					bits.Find(b, i)
				}
			}
		}
	}
}
