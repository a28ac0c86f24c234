package branch_test

import (
	"bytes"
	"fmt"
	"slices"
	"strings"

	"banyan/api"
)

// sizes are the four that there are.
var sizes = []int{512, 1024, 2048, 4096}

// wrongSizes are some of the others: beside them, halves and doubles, and the ends of all numbers.
var wrongSizes = []int{0, 1, -1, 32, 256, 511, 513, 1023, 1025, 1536, 2047, 2049, 4095, 4097, 8192, -512, 1<<63 - 1, -1 << 63}

// kids are children with keys between them, told as words.
func kids(keys string, pages ...int) api.Kids {
	k := api.Kids{Pages: pages}
	for _, word := range strings.Fields(keys) {
		k.Keys = append(k.Keys, []byte(word))
	}
	return k
}

// with are children 2, 3, .. with these keys between them.
func with(keys ...string) api.Kids {
	k := api.Kids{Pages: []int{2}}
	for i, key := range keys {
		k.Pages = append(k.Pages, 3+i)
		k.Keys = append(k.Keys, []byte(key))
	}
	return k
}

// example is the K of the chapter.
func example() api.Kids { return kids("c f", 5, 9, 4) }

// of is the range from lo up to hi.
func of(lo string, hi string) api.Range { return api.Range{Lo: []byte(lo), Hi: []byte(hi)} }

// from is the range of All from lo on.
func from(lo string) api.Range { return api.Range{Lo: []byte(lo), All: true} }

// show writes children and keys so that they can be told apart.
func show(k api.Kids) string {
	if len(k.Pages) > 40 {
		return fmt.Sprintf("%d children, %d keys", len(k.Pages), len(k.Keys))
	}
	return fmt.Sprintf("%v %.40q", k.Pages, k.Keys)
}

// showRange writes a range so that it can be told apart.
func showRange(r api.Range) string { return fmt.Sprintf("%q-%q, all %v", r.Lo, r.Hi, r.All) }

// same tells whether children and keys are the same, none and nil being one.
func same(a api.Kids, b api.Kids) bool {
	return slices.Equal(a.Pages, b.Pages) && slices.EqualFunc(a.Keys, b.Keys, bytes.Equal)
}

// none tells whether there is nothing, as beside an error.
func none(k api.Kids) bool { return len(k.Pages) == 0 && len(k.Keys) == 0 }

// sameRange tells whether two ranges have the same fields, none and nil being one.
func sameRange(a api.Range, b api.Range) bool {
	return bytes.Equal(a.Lo, b.Lo) && bytes.Equal(a.Hi, b.Hi) && a.All == b.All
}

// copyOf is the same children and keys with other memory.
func copyOf(k api.Kids) api.Kids {
	c := api.Kids{Pages: slices.Clone(k.Pages)}
	for _, key := range k.Keys {
		c.Keys = append(c.Keys, bytes.Clone(key))
	}
	return c
}

// digits are the bytes of a number, so many, the highest first.
func digits(wide int, n int) string {
	text := ""
	for range wide {
		text = string([]byte{byte(n % 256)}) + text
		n /= 256
	}
	return text
}

// written is the bytes of children and keys, by the chapter's words.
func written(k api.Kids) string {
	var text strings.Builder
	text.WriteString(digits(2, len(k.Pages)))
	for _, page := range k.Pages {
		text.WriteString(digits(4, page))
	}
	for _, key := range k.Keys {
		text.WriteString(digits(2, len(key)) + string(key))
	}
	return text.String()
}

// fits is the chapter's word.
func fits(k api.Kids) bool { return len(k.Pages) >= 1 && len(k.Keys)+1 == len(k.Pages) }

// mayBe is what Check must answer of one of the four sizes, by the library's order.
func mayBe(size int, k api.Kids) api.Errno {
	if len(k.Pages) < 2 || !fits(k) {
		return api.ErrBranchKids
	}
	seen := map[int]bool{}
	for _, page := range k.Pages {
		if page < 2 || page > 65535 || seen[page] {
			return api.ErrBranchKids
		}
		seen[page] = true
	}
	for _, key := range k.Keys {
		if len(key) < 1 || len(key) > size/16 {
			return api.ErrBranchKey
		}
	}
	for i := range k.Keys {
		if i > 0 && string(k.Keys[i]) <= string(k.Keys[i-1]) {
			return api.ErrBranchOrder
		}
	}
	if len(written(k)) > size-32 {
		return api.ErrBranchLong
	}
	return api.OK
}

// toldBy is what Decode must answer of one of the four sizes: the Kids of the only text that could be these bytes, if it is.
func toldBy(size int, text string) (api.Kids, api.Errno) {
	at := 0
	next := func(wide int) (n int) {
		for range wide {
			n *= 256
			if at < len(text) {
				n += int(text[at])
			}
			at++
		}
		return n
	}
	var k api.Kids
	for count := next(2); at < len(text); {
		if len(k.Pages) < count {
			k.Pages = append(k.Pages, next(4))
			continue
		}
		long := next(2)
		k.Keys = append(k.Keys, []byte(text[min(at, len(text)):min(at+long, len(text))]))
		at += long
	}
	if written(k) != text || mayBe(size, k) != api.OK {
		return api.Kids{}, api.ErrBranchForm
	}
	return k, api.OK
}

// parts are the two that a number of Split stands for, by the chapter's words; they share memory with the whole.
func parts(k api.Kids, n int) (api.Kids, api.Kids) {
	return api.Kids{Pages: k.Pages[:n], Keys: k.Keys[:n-1]}, api.Kids{Pages: k.Pages[n:], Keys: k.Keys[n:]}
}

// halves is what Split must answer of one of the four sizes, each number tried.
func halves(size int, k api.Kids) (int, api.Errno) {
	if !fits(k) || len(k.Pages) < 4 {
		return 0, api.ErrArg
	}
	best, least := 0, 1<<30
	for n := 2; n <= len(k.Pages)-2; n++ {
		first, others := parts(k, n)
		if longer := max(len(written(first)), len(written(others))); longer < least {
			best, least = n, longer
		}
	}
	if least > size-32 {
		return 0, api.ErrBranchLong
	}
	return best, api.OK
}

// within is whether a range has a key, by the library's order.
func within(r api.Range, key string) bool {
	return key >= string(r.Lo) && (r.All || key < string(r.Hi))
}

// ranges are all that have two of these ends, empty ones and ones of All with every Hi among them.
func ranges(ends ...string) []api.Range {
	var list []api.Range
	for _, lo := range ends {
		for _, hi := range ends {
			for _, all := range []bool{false, true} {
				list = append(list, api.Range{Lo: []byte(lo), Hi: []byte(hi), All: all})
			}
		}
	}
	return list
}

// rows are Kids that fit, by all choices of some keys that rise, of at least one child.
func rows() []api.Kids {
	list := []api.Kids{with()}
	for _, key := range []string{"\x00", "a", "a\x00", "ab", "b", "\xff\xff"} {
		for _, k := range list {
			longer := copyOf(k)
			longer.Pages = append(longer.Pages, 2+len(k.Pages))
			longer.Keys = append(longer.Keys, []byte(key))
			list = append(list, longer)
		}
	}
	return list
}

// strange are Kids that fit and may not be a branch: by numbers, by keys, by their order.
func strange() []api.Kids {
	return []api.Kids{
		kids("", 7), kids("", 0), kids("a", 5, 5), kids("a", -1, 1<<40), kids("c b a", 9, 8, 7, 6), kids("b b", 2, 3, 4),
		with(""), with("", ""), with("a", "", "b"), with(strings.Repeat("k", 300), "z", "a"), with("c", "a", "d", "b"),
	}
}

// unfit are Kids that do not fit.
func unfit() []api.Kids {
	return []api.Kids{
		{}, {Pages: []int{}, Keys: [][]byte{}}, {Keys: [][]byte{[]byte("a")}}, {Keys: [][]byte{nil, nil}},
		kids("a", 5), kids("", 5, 6), kids("a b", 5, 6), kids("a", 5, 6, 7), kids("a b c d e", 5, 6, 7, 8, 9), kids("a b c", 5, 6, 7, 8, 9),
	}
}

// asked are the keys of rows, some between them, and ones ahead of all and behind all.
func asked() []string {
	return []string{"", "\x00", "\x00\x00", "a", "a\x00", "a\x00\x00", "aa", "ab", "b", "c", strings.Repeat("k", 300), "z", "\xff", "\xff\xff", "\xff\xff\xff"}
}

// dice are numbers that look thrown and are the same in every run.
type dice uint64

func (d *dice) next() uint64 {
	*d += 0x9e3779b97f4a7c15
	x := uint64(*d)
	x = (x ^ x>>30) * 0xbf58476d1ce4e5b9
	x = (x ^ x>>27) * 0x94d049bb133111eb
	return x ^ x>>31
}

func (d *dice) below(n int) int { return int(d.next() % uint64(n)) }

// text is so many bytes, of few letters, so that many keys begin alike.
func (d *dice) text(long int) string {
	const letters = "\x00a\x80\xff"
	var b strings.Builder
	for range long {
		b.WriteByte(letters[d.below(len(letters))])
	}
	return b.String()
}

// key is one that may be, of a size: often of few bytes, or of the most.
func (d *dice) key(size int) string {
	switch d.below(4) {
	case 0:
		return d.text(size / 16)
	case 1:
		return d.text(1 + d.below(size/16))
	}
	return d.text(1 + d.below(5))
}

// kids are so many children, or a few fewer, that may be a branch but for how many bytes they have.
func (d *dice) kids(size int, n int) api.Kids {
	var keys []string
	for range n - 1 {
		keys = append(keys, d.key(size))
	}
	slices.Sort(keys)
	k := with(slices.Compact(keys)...)
	step := 1 + d.below(60)
	for i := range k.Pages {
		k.Pages[i] = 2 + i*step
	}
	for i := range k.Pages {
		j := i + d.below(len(k.Pages)-i)
		k.Pages[i], k.Pages[j] = k.Pages[j], k.Pages[i]
	}
	return k
}

// spoilt is Kids of which one thing is another one, which perhaps may not be.
func (d *dice) spoilt(size int, k api.Kids) api.Kids {
	numbers := []int{0, 1, 2, -1, -5, 65535, 65536, 1 << 32, 1<<32 + 2, 1<<63 - 1, -1 << 63, k.Pages[d.below(len(k.Pages))]}
	switch d.below(5) {
	case 0:
		k.Pages[d.below(len(k.Pages))] = numbers[d.below(len(numbers))]
	case 1:
		k.Pages = append(k.Pages, 60000)
	case 2:
		k.Keys = append(k.Keys, []byte("\xff\xff\xff"))
	default:
		if len(k.Keys) > 0 {
			texts := []string{"", d.text(size/16 + 1), d.key(size), d.text(size / 16), string(k.Keys[d.below(len(k.Keys))])}
			k.Keys[d.below(len(k.Keys))] = []byte(texts[d.below(len(texts))])
		}
	}
	return k
}

// branch is Kids that may be a branch, some of them nearly as many as there can be.
func (d *dice) branch(size int) api.Kids {
	k := d.kids(size, 3+d.below(60))
	for len(k.Pages) < 2 || len(written(k)) > size-32 {
		if len(k.Pages) < 2 {
			return with("a")
		}
		n := len(k.Keys) - 1
		k.Pages, k.Keys = k.Pages[:n+1], k.Keys[:n]
	}
	return k
}
