package text_test

import (
	"math"
	"slices"
	"strings"
	"testing"

	"gleanings/api"
	"gleanings/text"
)

func sameBook(a, b api.Book) bool {
	return slices.Equal(a.Words, b.Words) && slices.Equal(a.Text, b.Text)
}

// eachText runs a test on all texts of up to so many signs out of an alphabet.
func eachText(alphabet string, most int, test func(s string)) {
	test("")
	if most == 0 {
		return
	}
	for _, c := range []byte(alphabet) {
		eachText(alphabet, most-1, func(s string) { test(string(c) + s) })
	}
}

// plainBook reads a text sign by sign, whatever its length and the form of its words.
func plainBook(s string) api.Book {
	if s == "" || s[len(s)-1] != '\n' {
		s += "\n"
	}
	word, inOrder := "", []string{}
	for i := range len(s) {
		if s[i] != ' ' && s[i] != '\n' {
			word += s[i : i+1]
			continue
		}
		if word != "" {
			inOrder, word = append(inOrder, word), ""
		}
		if s[i] == '\n' {
			inOrder = append(inOrder, "\n")
		}
	}
	rank := map[string]int{}
	for _, w := range inOrder {
		rank[w] = 0
	}
	delete(rank, "\n")
	for w := range rank {
		for other := range rank {
			if other < w {
				rank[w]++
			}
		}
	}
	b := api.Book{Words: make([]string, len(rank))}
	for w, place := range rank {
		b.Words[place] = w
	}
	for _, w := range inOrder {
		if w == "\n" {
			b.Text = append(b.Text, api.Stop)
		} else {
			b.Text = append(b.Text, rank[w]+2)
		}
	}
	b.Text = append(b.Text, api.Last)
	return b
}

func TestReadByHand(t *testing.T) {
	cases := []struct {
		name, s string
		want    api.Book
	}{
		{"no bytes", "", api.Book{Text: []int{1, 0}}},
		{"just a line's end", "\n", api.Book{Text: []int{1, 0}}},
		{"two lines' ends", "\n\n", api.Book{Text: []int{1, 1, 0}}},
		{"just spaces", "   ", api.Book{Text: []int{1, 0}}},
		{"spaces and lines' ends", " \n  \n ", api.Book{Text: []int{1, 1, 1, 0}}},
		{"a word", "a", api.Book{Words: []string{"a"}, Text: []int{2, 1, 0}}},
		{"a word, with the line's end", "a\n", api.Book{Words: []string{"a"}, Text: []int{2, 1, 0}}},
		{"an empty line behind", "a\n\n", api.Book{Words: []string{"a"}, Text: []int{2, 1, 1, 0}}},
		{"a line of a space behind", "a\n ", api.Book{Words: []string{"a"}, Text: []int{2, 1, 1, 0}}},
		{"an empty line ahead", "\na", api.Book{Words: []string{"a"}, Text: []int{1, 2, 1, 0}}},
		{"spaces around", "  b   a  ", api.Book{Words: []string{"a", "b"}, Text: []int{3, 2, 1, 0}}},
		{"a word twice", "a b a", api.Book{Words: []string{"a", "b"}, Text: []int{2, 3, 2, 1, 0}}},
		{"a word in two lines", "a b\na b", api.Book{Words: []string{"a", "b"}, Text: []int{2, 3, 1, 2, 3, 1, 0}}},
		{"shorter is less", "ab aa a b", api.Book{Words: []string{"a", "aa", "ab", "b"}, Text: []int{4, 3, 2, 5, 1, 0}}},
		{"the outermost letters", "z a az za", api.Book{Words: []string{"a", "az", "z", "za"}, Text: []int{4, 2, 3, 5, 1, 0}}},
		{"words of 8", "zzzzzzzz aaaaaaaa", api.Book{Words: []string{"aaaaaaaa", "zzzzzzzz"}, Text: []int{3, 2, 1, 0}}},
		{"several lines", "the cat  sat\n\nthe dog", api.Book{Words: []string{"cat", "dog", "sat", "the"}, Text: []int{5, 2, 4, 1, 1, 5, 3, 1, 0}}},
	}
	for _, c := range cases {
		if got, e := text.Read(c.s); e != api.OK || !sameBook(got, c.want) {
			t.Errorf("%s: %+v, %d, want %+v", c.name, got, e, c.want)
		}
	}
}

func TestReadOfAllShortTexts(t *testing.T) {
	eachText("ab \n", 6, func(s string) {
		want := plainBook(s)
		if got, e := text.Read(s); e != api.OK || !sameBook(got, want) {
			t.Errorf("%q: %+v, %d, want %+v", s, got, e, want)
		}
	})
}

func TestReadRefuses(t *testing.T) {
	many := strings.Repeat
	cases := []struct {
		name, s string
		want    api.Errno
	}{
		{"400 bytes", many(" ", 400), api.OK},
		{"401 bytes", many(" ", 401), api.ErrLong},
		{"401 bytes, the last a line's end", many(" ", 400) + "\n", api.ErrLong},
		{"401 bytes, of bad form", many("A", 401), api.ErrLong},
		{"400 bytes, of bad form", many("A", 400), api.ErrForm},
		{"200 signs of two bytes", many("é", 200), api.ErrForm},
		{"201 signs of two bytes", many("é", 201), api.ErrLong},

		{"8 letters", "abcdefgh", api.OK},
		{"9 letters", "abcdefghi", api.ErrForm},
		{"9 letters, later", "a\nb abcdefghi c", api.ErrForm},
		{"ahead of a", "`", api.ErrForm},
		{"behind z", "{", api.ErrForm},
		{"great letter", "aBc", api.ErrForm},
		{"digit", "a1", api.ErrForm},
		{"full stop", "a.", api.ErrForm},
		{"tab within", "a\tb", api.ErrForm},
		{"tab alone", "a \t b", api.ErrForm},
		{"byte 13", "a\r\nb", api.ErrForm},
		{"bytes 11 and 12", "a \v \f", api.ErrForm},
		{"byte 0", "a\x00", api.ErrForm},
		{"byte 127", "\x7f", api.ErrForm},
		{"half a sign", "a\x80", api.ErrForm},
		{"byte 255", "\xff", api.ErrForm},
		{"sign of two bytes", "é", api.ErrForm},
		{"a space of two bytes", "a\u00a0b", api.ErrForm},
		{"a line's end of two bytes", "a \u0085 b", api.ErrForm},
		{"in the last line", "a\nb\nC\n", api.ErrForm},

		{"99 words, 1 line", many("a ", 99), api.OK},
		{"100 words, 1 line", many("a ", 100), api.ErrLong},
		{"1 word, 99 lines", "a" + many("\n", 99), api.OK},
		{"1 word, 100 lines", "a" + many("\n", 100), api.ErrLong},
		{"100 lines", many("\n", 100), api.OK},
		{"100 lines, the last without its end", many("\n", 99) + " ", api.OK},
		{"101 lines", many("\n", 101), api.ErrLong},
		{"101 lines, the last without its end", many("\n", 100) + " ", api.ErrLong},
		{"50 words, 50 lines", many("ab\n", 50), api.OK},
		{"50 words, 50 lines, the last without its end", many("ab\n", 49) + "ab", api.OK},
		{"51 words, 50 lines", many("ab\n", 49) + "ab ab", api.ErrLong},
		{"102 words and lines, of bad form", many("a ", 100) + "A", api.ErrForm},
	}
	for _, c := range cases {
		b, e := text.Read(c.s)
		if e != c.want {
			t.Errorf("%s: %d, want %d", c.name, e, c.want)
		}
		if e != api.OK && (len(b.Words) != 0 || len(b.Text) != 0) {
			t.Errorf("%s: %+v with error %d", c.name, b, e)
		}
	}
}

func TestReadOfEachByte(t *testing.T) {
	for i := range 256 {
		c := string([]byte{byte(i)})
		want := api.ErrForm
		if c == " " || c == "\n" || c >= "a" && c <= "z" {
			want = api.OK
		}
		for _, s := range []string{c, "ab" + c, c + "ab", "ab" + c + "ab"} {
			if _, e := text.Read(s); e != want {
				t.Errorf("%q: %d, want %d", s, e, want)
			}
		}
	}
}

func TestReadAnswersNewMemory(t *testing.T) {
	const s = "b a\nc"
	first, _ := text.Read(s)
	want, _ := text.Read(s)
	first.Words[0], first.Text[0] = "x", 9
	if again, _ := text.Read(s); !sameBook(again, want) {
		t.Errorf("%+v, want %+v", again, want)
	}
}

func TestGoodOfRead(t *testing.T) {
	eachText("ab \n", 6, func(s string) {
		if b, _ := text.Read(s); !text.Good(b) {
			t.Errorf("%q: %+v is not good", s, b)
		}
	})
}

// Texts that Read refuses for their length alone have books, too.
func TestGoodOfLongTexts(t *testing.T) {
	for name, s := range map[string]string{
		"many bytes": strings.Repeat("abcdefgh ijklmnop\n", 1000),
		"many words": strings.Repeat("b a ", 1000),
		"many lines": strings.Repeat("\n", 1000),
		"just more":  strings.Repeat("a ", 100),
	} {
		if _, e := text.Read(s); e != api.ErrLong {
			t.Errorf("%s: %d", name, e)
		}
		if !text.Good(plainBook(s)) {
			t.Errorf("%s: not good", name)
		}
	}
	if text.Good(plainBook("abcdefghi")) {
		t.Error("a word of 9 letters is good")
	}
}

func TestGoodByHand(t *testing.T) {
	ab := []string{"a", "b"}
	cases := []struct {
		name string
		b    api.Book
		want bool
	}{
		{"a line without words", api.Book{Text: []int{1, 0}}, true},
		{"lists without elements", api.Book{Words: []string{}, Text: []int{1, 0}}, true},
		{"lines without words", api.Book{Text: []int{1, 1, 1, 0}}, true},
		{"two words", api.Book{Words: ab, Text: []int{3, 1, 1, 2, 3, 1, 0}}, true},
		{"a word of 8", api.Book{Words: []string{"abcdefgh"}, Text: []int{2, 1, 0}}, true},

		{"zero value", api.Book{}, false},
		{"words without text", api.Book{Words: ab}, false},
		{"just Last", api.Book{Text: []int{0}}, false},
		{"just Stop", api.Book{Text: []int{1}}, false},
		{"without Last", api.Book{Words: ab, Text: []int{2, 3, 1}}, false},
		{"without the last Stop", api.Book{Words: ab, Text: []int{2, 1, 3, 0}}, false},
		{"without Stop and Last", api.Book{Words: ab, Text: []int{2, 3}}, false},
		{"Last twice at the end", api.Book{Text: []int{1, 0, 0}}, false},
		{"Last within", api.Book{Words: ab, Text: []int{2, 0, 3, 1, 0}}, false},
		{"Last and a line behind it", api.Book{Text: []int{1, 0, 1, 0}}, false},
		{"Last first", api.Book{Text: []int{0, 1}}, false},

		{"below 0", api.Book{Words: ab, Text: []int{2, -1, 3, 1, 0}}, false},
		{"least", api.Book{Words: ab, Text: []int{math.MinInt, 2, 3, 1, 0}}, false},
		{"above the words", api.Book{Words: ab, Text: []int{2, 3, 4, 1, 0}}, false},
		{"greatest", api.Book{Words: ab, Text: []int{2, 3, math.MaxInt, 1, 0}}, false},
		{"above no words", api.Book{Text: []int{2, 1, 0}}, false},
		{"the first is not used", api.Book{Words: ab, Text: []int{3, 1, 0}}, false},
		{"the last is not used", api.Book{Words: ab, Text: []int{2, 1, 0}}, false},
		{"none is used", api.Book{Words: ab, Text: []int{1, 0}}, false},

		{"falling", api.Book{Words: []string{"b", "a"}, Text: []int{2, 3, 1, 0}}, false},
		{"twice", api.Book{Words: []string{"a", "a"}, Text: []int{2, 3, 1, 0}}, false},
		{"falling at the end", api.Book{Words: []string{"a", "c", "b"}, Text: []int{2, 3, 4, 1, 0}}, false},
		{"the empty word", api.Book{Words: []string{"", "a"}, Text: []int{2, 3, 1, 0}}, false},
		{"a word of 9", api.Book{Words: []string{"a", "abcdefghi"}, Text: []int{2, 3, 1, 0}}, false},
		{"great letter", api.Book{Words: []string{"A", "b"}, Text: []int{2, 3, 1, 0}}, false},
		{"ahead of a", api.Book{Words: []string{"`"}, Text: []int{2, 1, 0}}, false},
		{"behind z", api.Book{Words: []string{"{"}, Text: []int{2, 1, 0}}, false},
		{"space", api.Book{Words: []string{"a b"}, Text: []int{2, 1, 0}}, false},
		{"line's end", api.Book{Words: []string{"a\n"}, Text: []int{2, 1, 0}}, false},
		{"half a sign", api.Book{Words: []string{"a\x80"}, Text: []int{2, 1, 0}}, false},
		{"sign of two bytes", api.Book{Words: []string{"é"}, Text: []int{2, 1, 0}}, false},
	}
	for _, c := range cases {
		if text.Good(c.b) != c.want {
			t.Errorf("%s: want %v", c.name, c.want)
		}
	}
}

// A book is good just if the text that it tells of is read as that book.
func TestGoodOfAllShortBooks(t *testing.T) {
	lists := [][]string{nil, {"a"}, {"b"}, {"a", "b"}, {"b", "a"}, {"a", "a"}, {"a", "b", "c"}}
	for _, words := range lists {
		signs := []int{}
		var grow func(most int)
		grow = func(most int) {
			b := api.Book{Words: words, Text: signs}
			if want := isRead(b); text.Good(b) != want {
				t.Errorf("%+v: want %v", b, want)
			}
			if most == 0 {
				return
			}
			for sign := -1; sign <= 4; sign++ {
				signs = append(signs, sign)
				grow(most - 1)
				signs = signs[:len(signs)-1]
			}
		}
		grow(5)
	}
}

// isRead spells a book as a text, as far as it can, and reads that again.
func isRead(b api.Book) bool {
	s := ""
	for _, sign := range b.Text {
		if sign == api.Stop {
			s += "\n"
		}
		if sign >= 2 && sign-2 < len(b.Words) {
			s += b.Words[sign-2] + " "
		}
	}
	again := plainBook(s)
	return sameBook(again, b)
}

func TestSignsByHand(t *testing.T) {
	b, _ := text.Read("the cat  sat\n\nthe dog")
	cases := []struct {
		name, s string
		want    []int
	}{
		{"no bytes", "", nil},
		{"just spaces", "   ", nil},
		{"a word", "cat", []int{2}},
		{"all words", "cat dog sat the", []int{2, 3, 4, 5}},
		{"not as in the book", "dog  the  dog ", []int{3, 5, 3}},
		{"spaces around", "  sat ", []int{4}},
		{"just a line's end", "\n", []int{1}},
		{"lines' ends", "\n\n\n", []int{1, 1, 1}},
		{"a line's end ahead", "\ncat", []int{1, 2}},
		{"a line's end behind", "cat\n", []int{2, 1}},
		{"lines' ends behind", "cat\n\n", []int{2, 1, 1}},
		{"a line's end between", "the\ncat", []int{5, 1, 2}},
		{"lines' ends all over", "\nthe\n \ncat \n", []int{1, 5, 1, 1, 2, 1}},
	}
	for _, c := range cases {
		if got, ok := text.Signs(b, c.s); !ok || !slices.Equal(got, c.want) {
			t.Errorf("%s: %v, %v, want %v", c.name, got, ok, c.want)
		}
	}
}

func TestSignsOfNoWords(t *testing.T) {
	b, _ := text.Read("the cat  sat\n\nthe dog")
	for _, s := range []string{
		"bird", "a", "zoo", "ca", "cats", "do", "Cat", "CAT", "catdog", "cat\tdog", "cat\rdog", "cat\r\n", "\t", "\x00",
		"cat\x80", "\xff", "é", "cat\u00a0dog", "the bird", "bird the", "the\nbird\n", "the cat\nsat dog\n\nx", "abcdefghi",
	} {
		if got, ok := text.Signs(b, s); ok || len(got) != 0 {
			t.Errorf("%q: %v, %v", s, got, ok)
		}
	}
}

func TestSignsOfBooksWithoutWords(t *testing.T) {
	empty, _ := text.Read("")
	for name, b := range map[string]api.Book{"zero value": {}, "of no bytes": empty} {
		for s, want := range map[string][]int{"": nil, " ": nil, "\n": {1}, " \n\n ": {1, 1}} {
			if got, ok := text.Signs(b, s); !ok || !slices.Equal(got, want) {
				t.Errorf("%s: %q: %v, %v, want %v", name, s, got, ok, want)
			}
		}
		for _, s := range []string{"a", "\na", "\n\n\x00"} {
			if got, ok := text.Signs(b, s); ok || len(got) != 0 {
				t.Errorf("%s: %q: %v, %v", name, s, got, ok)
			}
		}
	}
}

// With an end behind the last line, and Last, the signs of a text are its book's.
func TestSignsOfTheBooksText(t *testing.T) {
	eachText("ab \n", 6, func(s string) {
		b, _ := text.Read(s)
		if !strings.HasSuffix(s, "\n") {
			s += "\n"
		}
		got, ok := text.Signs(b, s)
		if !ok || !slices.Equal(append(got, api.Last), b.Text) {
			t.Errorf("%q: %v, %v, want %v", s, got, ok, b.Text)
		}
	})
}

// The limits are Read's: what is asked may be longer, and so may the book.
func TestSignsHasNoLimits(t *testing.T) {
	s := strings.Repeat("a  ab \n", 1000)
	b := plainBook(s)
	got, ok := text.Signs(b, s)
	if !ok || !slices.Equal(append(got, api.Last), b.Text) {
		t.Errorf("%d signs, %v", len(got), ok)
	}
}

func TestBooksAreLeftAlone(t *testing.T) {
	words := []string{"b", "a", "a", "c"}
	signs := []int{3, 2, 1, 0, 1, 0}
	for _, b := range []api.Book{{Words: words[:3], Text: signs[:4]}, {Words: words[1:2], Text: signs[1:4]}} {
		text.Good(b)
		text.Signs(b, "a b\nc")
		text.Signs(b, "a\n")
	}
	if !slices.Equal(words, []string{"b", "a", "a", "c"}) || !slices.Equal(signs, []int{3, 2, 1, 0, 1, 0}) {
		t.Errorf("%v, %v", words, signs)
	}
}

func TestNothingPanics(t *testing.T) {
	lists := [][]string{nil, {""}, {"b", "a"}, {"\xff", "é", ""}, {"a", "a", "a"}}
	signs := [][]int{nil, {0}, {1}, {1, 0}, {-1, 1, 0}, {math.MaxInt, 1, 0}, {math.MinInt, 1, 0}, {2, 3, 4, 5, 1, 0}}
	for _, words := range lists {
		for _, l := range signs {
			b := api.Book{Words: words, Text: l}
			text.Good(b)
			for _, s := range []string{"", "a", "b\na", "\n", "\x00\xff", "é a"} {
				text.Signs(b, s)
			}
		}
	}
}
