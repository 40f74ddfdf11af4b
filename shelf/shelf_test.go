package shelf_test

import (
	"fmt"
	"math"
	"math/big"
	"reflect"
	"slices"
	"strings"
	"testing"

	"gleanings/api"
	"gleanings/bits"
	"gleanings/comb"
	"gleanings/shelf"
	"gleanings/text"
	"gleanings/wave"
)

func part(n, d int) api.Part { return api.Part{N: n, D: d} }

func mustOpen(t *testing.T, s string) api.Shelf {
	t.Helper()
	opened, e := shelf.Open(s)
	if e != api.OK {
		t.Fatalf("%q: error %d", s, e)
	}
	return opened
}

// isEmpty is whether a shelf is as its zero value; lists may be nil or not.
func isEmpty(s api.Shelf) bool {
	w := s.Comb.Wave
	return len(s.Book.Words)+len(s.Book.Text)+len(s.Comb.Ends)+len(s.Comb.Less)+len(w.Levels) == 0 && w.N == 0 && w.Deep == 0
}

// eachText runs a test on all texts of up to so many bytes out of an alphabet.
func eachText(alphabet string, most int, test func(s string)) {
	test("")
	if most == 0 {
		return
	}
	for _, c := range []byte(alphabet) {
		eachText(alphabet, most-1, func(s string) { test(string(c) + s) })
	}
}

// eachWords runs a test on all lists of up to so many words, put together by
// spaces.
func eachWords(words []string, most int, test func(s string)) {
	test("")
	if most == 0 {
		return
	}
	for _, w := range words {
		eachWords(words, most-1, func(s string) { test(strings.TrimSuffix(w+" "+s, " ")) })
	}
}

// items is the words of a text and its lines' ends, as they stand there.
func items(s string) []string {
	return strings.FieldsFunc(strings.ReplaceAll(s, "\n", " / "), func(r rune) bool { return r == ' ' })
}

// page is a text as its items, with an end of its last line, and what nobody can
// ask for behind all.
func page(s string) []string {
	if !strings.HasSuffix(s, "\n") {
		s += "\n"
	}
	return append(items(s), "last")
}

// knows is whether all items stand in a page; an end of a line stands in each.
func knows(p, asked []string) bool {
	for _, a := range asked {
		if !slices.Contains(p[:len(p)-1], a) {
			return false
		}
	}
	return true
}

// kinds is the unlike items of a page, the end of a line first, words by order.
func kinds(p []string) []string {
	k := slices.Clone(p[:len(p)-1])
	slices.Sort(k) // A slash is less than each letter.
	return slices.Compact(k)
}

// plainPlaces looks through a page.
func plainPlaces(p, asked []string) []int {
	var places []int
	for i := range p {
		if i+len(asked) <= len(p) && slices.Equal(p[i:i+len(asked)], asked) {
			places = append(places, i)
		}
	}
	return places
}

// plainWeights looks through a page for what stands behind some items: how
// often, or behind how many unlike ones ahead of these.
func plainWeights(p, ahead []string) map[string]int {
	weights, seen := map[string]int{}, map[string]bool{}
	for _, place := range plainPlaces(p, ahead) {
		if place+len(ahead) >= len(p)-1 {
			continue
		}
		item, before := p[place+len(ahead)], p[(place+len(p)-1)%len(p)]
		if len(ahead) == 2 || !seen[before+" "+item] {
			weights[item]++
		}
		seen[before+" "+item] = true
	}
	return weights
}

// plainLikely is how likely an item is, from the longest to the shortest.
func plainLikely(p, ahead []string, item string) *big.Rat {
	if len(ahead) > 2 {
		ahead = ahead[len(ahead)-2:]
	}
	shorter := func() *big.Rat {
		if len(ahead) > 0 {
			return plainLikely(p, ahead[1:], item)
		}
		return big.NewRat(1, int64(len(kinds(p))))
	}()
	weights, all := plainWeights(p, ahead), 0
	for _, w := range weights {
		all += w
	}
	if all == 0 {
		return shorter
	}
	shorter.Mul(shorter, big.NewRat(int64(3*len(weights)), int64(4*all)))
	if w := weights[item]; w > 0 {
		shorter.Add(shorter, big.NewRat(int64(4*w-3), int64(4*all)))
	}
	return shorter
}

// plainGuess is the first of the likeliest items.
func plainGuess(p, ahead []string) string {
	guess, most := "", new(big.Rat)
	for _, k := range kinds(p) {
		if l := plainLikely(p, ahead, k); l.Cmp(most) > 0 {
			guess, most = k, l
		}
	}
	return strings.ReplaceAll(guess, "/", "\n")
}

// checkWords asks a shelf all that it can be asked of words, and looks through
// its text for the answers.
func checkWords(t *testing.T, s api.Shelf, p []string, words string, word []string) {
	t.Helper()
	asked := items(words)
	var places []int
	if knows(p, asked) {
		places = plainPlaces(p, asked)
	}
	if got := shelf.Places(s, words); !slices.Equal(got, places) {
		t.Errorf("%q of %q: at %v, want %v", words, p, got, places)
	}
	if got := shelf.Count(s, words); got != len(places) {
		t.Errorf("%q of %q: %d, want %d", words, p, got, len(places))
	}
	wantGuess, wantError := "", api.ErrNone
	if knows(p, asked) {
		wantGuess, wantError = plainGuess(p, asked), api.OK
	}
	if got, e := shelf.Guess(s, words); got != wantGuess || e != wantError {
		t.Errorf("behind %q of %q: %q, %d, want %q, %d", words, p, got, e, wantGuess, wantError)
	}
	for _, w := range word {
		checkLikely(t, s, p, words, w)
	}
}

func checkLikely(t *testing.T, s api.Shelf, p []string, words, word string) {
	t.Helper()
	ahead, one := items(words), items(word)
	got, e := shelf.Likely(s, words, word)
	if len(one) != 1 || !knows(p, ahead) || !knows(p, one) {
		if e != api.ErrNone || got != (api.Part{}) {
			t.Errorf("%q behind %q of %q: %v, %d, want an error", word, words, p, got, e)
		}
		return
	}
	want := plainLikely(p, ahead, one[0])
	if e != api.OK || fmt.Sprintf("%d/%d", got.N, got.D) != want.String() {
		t.Errorf("%q behind %q of %q: %v, %d, want %v", word, words, p, got, e, want)
	}
}

func TestOpenByHand(t *testing.T) {
	for _, q := range []struct {
		name, s string
		words   []string
		text    []int
		ends    []int
		less    []int
	}{
		{"no bytes", "", nil, []int{1, 0}, []int{1, 0}, []int{0, 1, 2}},
		{"a line's end", "\n", nil, []int{1, 0}, []int{1, 0}, []int{0, 1, 2}},
		{"two lines' ends", "\n\n", nil, []int{1, 1, 0}, []int{2, 1, 0}, []int{0, 1, 3}},
		{"a word", " a ", []string{"a"}, []int{2, 1, 0}, []int{2, 1, 0}, []int{0, 1, 2, 3}},
		{"two lines", "a b\na b", []string{"a", "b"}, []int{2, 3, 1, 2, 3, 1, 0}, []int{6, 5, 2, 3, 0, 4, 1}, []int{0, 1, 3, 5, 7}},
	} {
		s, e := shelf.Open(q.s)
		if e != api.OK || !slices.Equal(s.Book.Words, q.words) || !slices.Equal(s.Book.Text, q.text) {
			t.Errorf("%s: %d, the book is %v", q.name, e, s.Book)
		}
		if !slices.Equal(s.Comb.Ends, q.ends) || !slices.Equal(s.Comb.Less, q.less) || !slices.Equal(comb.Text(s.Comb), q.text) {
			t.Errorf("%s: the index is %v", q.name, s.Comb)
		}
	}
}

// A shelf is just the book, or its error, and the index of the book's text.
func TestOpenOfAllShortTexts(t *testing.T) {
	eachText("ab \nA", 5, func(written string) {
		book, want := text.Read(written)
		s, e := shelf.Open(written)
		if e != want {
			t.Errorf("%q: %d, want %d", written, e, want)
		}
		if want != api.OK {
			if !isEmpty(s) {
				t.Errorf("%q: %v with an error", written, s)
			}
			return
		}
		index, _ := comb.Make(book.Text)
		if !slices.Equal(s.Book.Words, book.Words) || !slices.Equal(s.Book.Text, book.Text) || !reflect.DeepEqual(s.Comb, index) {
			t.Errorf("%q: %v, want %v and %v", written, s, book, index)
		}
	})
}

func TestOpenRefuses(t *testing.T) {
	many := strings.Repeat
	for _, q := range []struct {
		name, s string
		want    api.Errno
	}{
		{"400 bytes", many("a", 7) + many(" ", 393), api.OK},
		{"401 bytes", many("a", 7) + many(" ", 394), api.ErrLong},
		{"401 bytes of no form", many("A", 401), api.ErrLong},
		{"99 words in a line", many("a ", 99), api.OK},
		{"100 words in a line", many("a ", 100), api.ErrLong},
		{"100 lines", many("\n", 100), api.OK},
		{"101 lines", many("\n", 101), api.ErrLong},
		{"101 lines, one of no form", many("\n", 100) + "A", api.ErrForm},
		{"50 words in 50 lines", many("a\n", 50), api.OK},
		{"51 words in 50 lines", "a " + many("a\n", 50), api.ErrLong},
		{"8 letters", "abcdefgh", api.OK},
		{"9 letters", "abcdefghi", api.ErrForm},
		{"a great letter", "A", api.ErrForm},
		{"a great letter, far behind", many("a ", 90) + "Z", api.ErrForm},
		{"a digit", "a1", api.ErrForm},
		{"a tab", "a\tb", api.ErrForm},
		{"a carriage return", "a\r\nb", api.ErrForm},
		{"a byte 0", "\x00", api.ErrForm},
		{"no letter of 7 bits", "ä", api.ErrForm},
		{"no letter at all", "\xff", api.ErrForm},
	} {
		s, e := shelf.Open(q.s)
		if e != q.want || isEmpty(s) != (q.want != api.OK) {
			t.Errorf("%s: %d, %v, want %d", q.name, e, s, q.want)
		}
	}
}

const cats = "the cat sat\nthe cat ran\nthe dog sat"

func TestPlacesByHand(t *testing.T) {
	s := mustOpen(t, cats)
	for _, q := range []struct {
		words string
		want  []int
	}{
		{"the", []int{0, 4, 8}},
		{"the cat", []int{0, 4}},
		{"  the   cat  ", []int{0, 4}},
		{"sat", []int{2, 10}},
		{"\n", []int{3, 7, 11}},
		{" \n ", []int{3, 7, 11}},
		{"\nthe", []int{3, 7}},
		{"sat\n", []int{2, 10}},
		{"sat\nthe cat ran\n", []int{2}},
		{cats, []int{0}},
		{cats + "\n", []int{0}},
		{cats + "\n\n", nil},
		{cats + " " + cats, nil},
		{"\n\n", nil},
		{"dog cat", nil},
		{"the the", nil},
		// No words stand at each place, ahead of Last, too.
		{"", []int{0, 1, 2, 3, 4, 5, 6, 7, 8, 9, 10, 11, 12}},
		{"   ", []int{0, 1, 2, 3, 4, 5, 6, 7, 8, 9, 10, 11, 12}},
		// None of these is a word of the book.
		{"bird", nil},
		{"the bird", nil},
		{"bird the", nil},
		{"the cat bird", nil},
		{"thecat", nil},
		{"th", nil},
		{"the\tcat", nil},
		{"The", nil},
		{"\x00", nil},
		{"\x01", nil},
		{"\xff", nil},
		{"\r\n", nil},
	} {
		if got := shelf.Places(s, q.words); !slices.Equal(got, q.want) {
			t.Errorf("%q: at %v, want %v", q.words, got, q.want)
		}
		if got := shelf.Count(s, q.words); got != len(q.want) {
			t.Errorf("%q: %d, want %d", q.words, got, len(q.want))
		}
	}
}

func TestLikelyByHand(t *testing.T) {
	s := mustOpen(t, "a b\na b")
	for _, q := range []struct {
		words, word string
		want        api.Part
	}{
		{"", "\n", part(1, 4)},
		{"", "a", part(1, 2)},
		{"", "b", part(1, 4)},
		{"a", "\n", part(3, 32)},
		{"a", "a", part(3, 16)},
		{"a", "b", part(23, 32)},
		{" a ", "  b ", part(23, 32)},
		{"a", " \n ", part(3, 32)},
		{"\na", "b", part(101, 128)},
		{"b\na", "b", part(101, 128)},
		{"a a\na", "b", part(101, 128)},
		{"\n", "a", part(5, 8)},
		{"b\n", "a", part(23, 32)},
		{"a b", "\n", part(101, 128)},
		{"b b", "\n", part(7, 16)},
	} {
		if got, e := shelf.Likely(s, q.words, q.word); e != api.OK || got != q.want {
			t.Errorf("%q behind %q: %v, %d, want %v", q.word, q.words, got, e, q.want)
		}
	}
}

func TestLikelyRefuses(t *testing.T) {
	s := mustOpen(t, cats)
	for _, q := range []struct{ words, word string }{
		{"bird", "the"},
		{"bird the cat", "sat"},
		{"the bird", "the"},
		{"the", "bird"},
		{"bird", "bird"},
		{"", "bird"},
		{"the", ""},
		{"", ""},
		{"the", "   "},
		{"the", "cat sat"},
		{"the", "cat cat"},
		{"the", "cat\n"},
		{"the", "\ncat"},
		{"the", "\n\n"},
		{"bird", "\n"},
		{"the", "cat bird"},
		{"the", "CAT"},
		{"the", "cat\t"},
		{"\xff", "cat"},
		{"the", "\x00"},
	} {
		if got, e := shelf.Likely(s, q.words, q.word); e != api.ErrNone || got != (api.Part{}) {
			t.Errorf("%q behind %q: %v, %d", q.word, q.words, got, e)
		}
	}
}

func TestGuessByHand(t *testing.T) {
	for _, q := range []struct{ name, s, words, want string }{
		{"a book of nothing", "", "", "\n"},
		{"a book of nothing, behind its end", "", "\n", "\n"},
		{"a word", "a", "a", "\n"},
		{"as likely as a line's end", "a", "", "\n"},
		{"the least of words that are as likely", "c b a c a b", "", "a"},
		{"behind a word", "a b\na b", "a", "b"},
		{"behind a line's end", "a b\na b", "\n", "a"},
		{"an end of a line", "a b\na b", "a b", "\n"},
		{"behind the last of all", "z y\nx", "x", "\n"},
		{"two words that are as likely", "n m z\no m y", "m", "y"},
		{"two words and a line's end that are as likely", "m z\nm y", "m", "\n"},
		{"the greatest word", "z z z z", "z", "z"},
		{"two signs tell more than one", "a x p\nb x q\na x p\nb x q\nc x q\n", "a x", "p"},
		{"one sign tells less", "a x p\nb x q\na x p\nb x q\nc x q\n", "x", "q"},
		{"what stands nowhere tells nothing", "a b\na b", "b b a a", "b"},
		{"spaces", cats, "  the   dog ", "sat"},
	} {
		if got, e := shelf.Guess(mustOpen(t, q.s), q.words); e != api.OK || got != q.want {
			t.Errorf("%s: %q, %d, want %q", q.name, got, e, q.want)
		}
	}
}

func TestGuessRefuses(t *testing.T) {
	s := mustOpen(t, cats)
	for _, words := range []string{"bird", "the bird", "bird the cat", "The", "the\tcat", "\x00", "\xff", "\n\n bird"} {
		if got, e := shelf.Guess(s, words); e != api.ErrNone || got != "" {
			t.Errorf("%q: %q, %d", words, got, e)
		}
	}
	s.Book.Text = nil
	if got, e := shelf.Guess(s, "the"); e != api.ErrNone || got != "" {
		t.Errorf("a book without a text: %q, %d", got, e)
	}
}

func TestExamplesOfTheWhole(t *testing.T) {
	s := mustOpen(t, "a b\na b")
	a, _ := text.Signs(s.Book, "a")
	if befores := comb.Befores(s.Comb, a); shelf.Count(s, "a b") != 2 || !slices.Equal(befores, []int{api.Last, api.Stop}) {
		t.Errorf("a b stands %d times; ahead of a stand %v", shelf.Count(s, "a b"), befores)
	}
	if got, e := shelf.Guess(s, "a"); got != "b" || e != api.OK {
		t.Errorf("behind a: %q, %d", got, e)
	}
	for _, w := range []string{"\n", "a"} {
		if p, e := shelf.Likely(s, "a", w); p.N < 1 || e != api.OK {
			t.Errorf("%q behind a: %v, %d", w, p, e)
		}
	}
	_, e := shelf.Likely(s, "a", "c")
	if shelf.Count(s, "c") != 0 || len(shelf.Places(s, "c")) != 0 || e != api.ErrNone {
		t.Errorf("c: %d, %v, %d", shelf.Count(s, "c"), shelf.Places(s, "c"), e)
	}
}

func TestShortTexts(t *testing.T) {
	word := []string{"\n", "a", "b", "c", " a", "", "a b"}
	eachWords([]string{"a", "b", "\n"}, 4, func(s string) {
		opened, p := mustOpen(t, s), page(s)
		eachWords([]string{"a", "b", "\n", "c"}, 3, func(words string) { checkWords(t, opened, p, words, word) })
	})
	eachWords([]string{"bb", "b", "ab"}, 5, func(s string) {
		opened, p := mustOpen(t, s), page(s)
		eachWords([]string{"ab", "b", "bb"}, 2, func(words string) { checkWords(t, opened, p, words, nil) })
	})
}

// mixed is a text that hangs on its arguments alone, of so many words and lines
// and so many unlike words.
func mixed(length, unlike int) string {
	var b strings.Builder
	state := uint32(length*31 + unlike)
	for range length - 1 {
		state = state*1664525 + 1013904223
		if n := int(state>>8) % (unlike + 1); n == unlike {
			b.WriteString("\n")
		} else {
			b.WriteString(" " + name(n))
		}
	}
	return b.String() + "\n"
}

// name is a word for a number up to 99; they do not rise with their numbers.
func name(n int) string {
	letters := "qazwsxedcr"
	return letters[n%10:n%10+1] + letters[n/10:n/10+1]
}

// heavy is a text of 99 words in which much stands behind q and q q, so that
// parts have a great D.
func heavy(unlike int) string {
	var b strings.Builder
	for i := range unlike {
		b.WriteString("q q " + name(i) + " ")
	}
	return b.String() + strings.Repeat("q ", 99-3*unlike)
}

func TestUpToTheLimits(t *testing.T) {
	texts := []string{
		mixed(100, 1), mixed(100, 2), mixed(100, 5), mixed(100, 20), mixed(100, 99), mixed(65, 3), mixed(64, 4),
		strings.Repeat("\n", 100), strings.Repeat("a ", 99), strings.Repeat("a\n", 50), heavy(5), heavy(25),
		strings.Repeat("abcdefgh abcdefgi\n", 22), strings.Repeat(" ", 398) + "z\n",
	}
	for _, s := range texts {
		opened, p := mustOpen(t, s), page(s)
		for _, length := range []int{0, 1, 2, 3, 9} {
			for from := 0; from+length < len(p); from += 3 {
				words := strings.ReplaceAll(strings.Join(p[from:from+length], " "), "/", "\n")
				word := strings.ReplaceAll(p[(from*7+1)%(len(p)-1)], "/", "\n")
				checkWords(t, opened, p, words, []string{word, "", "zzzz"})
			}
		}
		checkWords(t, opened, p, s, []string{"\n"})
	}
}

// All that stands in a book is just one together, whatever stands ahead.
func TestAllTogether(t *testing.T) {
	for _, s := range []string{"", cats, mixed(100, 30), heavy(25)} {
		opened, p := mustOpen(t, s), page(s)
		for i := 0; i < len(p)-2; i += 5 {
			ahead := strings.ReplaceAll(p[i]+" "+p[i+1], "/", "\n")
			sum := new(big.Rat)
			for _, k := range kinds(p) {
				l, _ := shelf.Likely(opened, ahead, strings.ReplaceAll(k, "/", "\n"))
				sum.Add(sum, big.NewRat(int64(l.N), int64(l.D)))
			}
			if sum.Cmp(big.NewRat(1, 1)) != 0 {
				t.Errorf("behind %q of %q: %v in all", ahead, s, sum)
			}
		}
	}
}

// What is asked may be longer than a text may be.
func TestLongWords(t *testing.T) {
	s := mustOpen(t, "a b\na b")
	long := strings.Repeat("a b\n", 10000)
	if shelf.Count(s, long) != 0 || len(shelf.Places(s, long)) != 0 {
		t.Error("it stands somewhere")
	}
	if got, e := shelf.Guess(s, long); e != api.OK || got != "a" {
		t.Errorf("%q, %d", got, e)
	}
	if got, e := shelf.Likely(s, long, strings.Repeat(" ", 10000)+"a"); e != api.OK || got != part(23, 32) {
		t.Errorf("%v, %d", got, e)
	}
}

func TestTheZeroValue(t *testing.T) {
	refused, _ := shelf.Open("A")
	for _, s := range []api.Shelf{{}, refused, {Book: api.Book{Words: []string{}, Text: []int{}}}} {
		for _, words := range []string{"", " ", "\n", "\n\n\n", "a", "a b", "\xff"} {
			if shelf.Count(s, words) != 0 || len(shelf.Places(s, words)) != 0 {
				t.Errorf("%q: %d, %v", words, shelf.Count(s, words), shelf.Places(s, words))
			}
			if got, e := shelf.Guess(s, words); got != "" || e != api.ErrNone {
				t.Errorf("behind %q: %q, %d", words, got, e)
			}
			for _, word := range []string{"", "a", "\n\n"} {
				if got, e := shelf.Likely(s, words, word); got != (api.Part{}) || e != api.ErrNone {
					t.Errorf("%q behind %q: %v, %d", word, words, got, e)
				}
			}
		}
		// An end of a line can be asked for in each book; here it is no sign.
		for _, words := range []string{"", "\n", "\n \n"} {
			if got, e := shelf.Likely(s, words, "\n"); got != part(0, 1) || e != api.OK {
				t.Errorf("a line's end behind %q: %v, %d", words, got, e)
			}
		}
		if got, e := shelf.Likely(s, "a", "\n"); got != (api.Part{}) || e != api.ErrNone {
			t.Errorf("a line's end behind a word that is none: %v, %d", got, e)
		}
	}
}

// damaged is shelves that Open has not made.
func damaged(t *testing.T) map[string]api.Shelf {
	least, greatest := math.MinInt, math.MaxInt
	shelves := map[string]api.Shelf{}
	for name, damage := range map[string]func(s *api.Shelf){
		"no words":                func(s *api.Shelf) { s.Book.Words = nil },
		"one word":                func(s *api.Shelf) { s.Book.Words = s.Book.Words[:1] },
		"words falling":           func(s *api.Shelf) { slices.Reverse(s.Book.Words) },
		"words alike":             func(s *api.Shelf) { s.Book.Words = []string{"the", "the", "the", "the", "the"} },
		"words of no letters":     func(s *api.Shelf) { s.Book.Words = []string{"", "\n", " ", "\xff", "a b"} },
		"more words":              func(s *api.Shelf) { s.Book.Words = append(s.Book.Words, "true", "zebra") },
		"no text":                 func(s *api.Shelf) { s.Book.Text = nil },
		"another text":            func(s *api.Shelf) { s.Book.Text = []int{least, -1, 0, 900, greatest} },
		"no book":                 func(s *api.Shelf) { s.Book = api.Book{} },
		"no index":                func(s *api.Shelf) { s.Comb = api.Comb{} },
		"another index":           func(s *api.Shelf) { s.Comb, _ = comb.Make([]int{900, 1023, 1, 7, 0}) },
		"an index of Last alone":  func(s *api.Shelf) { s.Comb, _ = comb.Make([]int{0}) },
		"no ends":                 func(s *api.Shelf) { s.Comb.Ends = nil },
		"one end fewer":           func(s *api.Shelf) { s.Comb.Ends = s.Comb.Ends[1:] },
		"ends that are no places": func(s *api.Shelf) { s.Comb.Ends[3], s.Comb.Ends[4] = least, greatest },
		"no less":                 func(s *api.Shelf) { s.Comb.Less = nil },
		"one less":                func(s *api.Shelf) { s.Comb.Less = s.Comb.Less[:1] },
		"many more less":          func(s *api.Shelf) { s.Comb.Less = append(s.Comb.Less, make([]int, 1000)...) },
		"less all 0":              func(s *api.Shelf) { s.Comb.Less = make([]int, 8) },
		"less falling":            func(s *api.Shelf) { slices.Reverse(s.Comb.Less) },
		"less far too small":      func(s *api.Shelf) { s.Comb.Less = slices.Repeat([]int{least}, 8) },
		"less far too great":      func(s *api.Shelf) { s.Comb.Less = slices.Repeat([]int{greatest}, 8) },
		"no wave":                 func(s *api.Shelf) { s.Comb.Wave = api.Wave{} },
		"a wave that is too long": func(s *api.Shelf) { s.Comb.Wave.N = greatest },
		"a wave below 0":          func(s *api.Shelf) { s.Comb.Wave.N = least },
		"a level is gone":         func(s *api.Shelf) { s.Comb.Wave.Levels = s.Comb.Wave.Levels[1:] },
		"a level without parts":   func(s *api.Shelf) { s.Comb.Wave.Levels[9].Parts = nil },
		"a level that lies":       func(s *api.Shelf) { s.Comb.Wave.Levels[8].Ahead[0] = greatest },
		"a level of other bits":   func(s *api.Shelf) { s.Comb.Wave.Levels[9] = bits.Make(make([]bool, 13)) },
		"a wave of other numbers": func(s *api.Shelf) { s.Comb.Wave, _ = wave.Make([]int{65535, 0, 1, 2, 3}, 16) },
	} {
		s := mustOpen(t, cats)
		damage(&s)
		shelves[name] = s
	}
	return shelves
}

// What shelves that Open has not made answer is not promised, but that they do,
// and that nothing stands beside an error.
func TestNothingPanics(t *testing.T) {
	asked := []string{"", " ", "\n", "the", "the cat", "cat sat\n", "\n\nthe", "bird", "true", "zebra", "\xff", "\x00", cats}
	for name, s := range damaged(t) {
		for _, words := range asked {
			shelf.Count(s, words)
			shelf.Places(s, words)
			if got, e := shelf.Guess(s, words); e != api.OK && got != "" {
				t.Errorf("%s: behind %q: %q, %d", name, words, got, e)
			}
			for _, word := range asked {
				if got, e := shelf.Likely(s, words, word); e != api.OK && got != (api.Part{}) {
					t.Errorf("%s: %q behind %q: %v, %d", name, word, words, got, e)
				}
			}
		}
	}
}

// A word that a book does not have is none, even if its index has a sign for it.
func TestNoWordForASign(t *testing.T) {
	s := mustOpen(t, "a b\na b")
	s.Book.Words = s.Book.Words[:1]
	if got, e := shelf.Guess(s, "a"); got != "" || e != api.ErrNone {
		t.Errorf("%q, %d", got, e)
	}
	s.Comb = api.Comb{}
	if got, e := shelf.Guess(s, "a"); got != "" || e != api.ErrNone {
		t.Errorf("without an index: %q, %d", got, e)
	}
}

func TestShelvesAreLeftAlone(t *testing.T) {
	s, same := mustOpen(t, cats), mustOpen(t, cats)
	for _, words := range []string{"", "the", "the cat", "cat sat\n", "bird"} {
		shelf.Count(s, words)
		places := shelf.Places(s, words)
		clear(places[:cap(places)])
		shelf.Guess(s, words)
		shelf.Likely(s, words, "cat")
	}
	if !reflect.DeepEqual(s, same) {
		t.Error("the shelf was changed, or shares memory with an answer")
	}
}

func TestShelvesShareNothing(t *testing.T) {
	s, same := mustOpen(t, cats), mustOpen(t, cats)
	clear(s.Book.Words)
	clear(s.Book.Text[:cap(s.Book.Text)])
	if !reflect.DeepEqual(s.Comb, same.Comb) || !reflect.DeepEqual(mustOpen(t, cats), same) {
		t.Error("the book and its index, or two shelves, share memory")
	}
}
