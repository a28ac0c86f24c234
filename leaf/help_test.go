package leaf_test

import (
	"bytes"
	"fmt"
	"slices"
	"strings"

	"banyan/api"
)

// sizes are the four that there are.
var sizes = []int{512, 1024, 2048, 4096}

// wrongSizes are some of the others: beside them, halves and doubles, and the ends of all numbers.
var wrongSizes = []int{0, 1, -1, 32, 256, 511, 513, 1023, 1025, 1536, 2047, 2049, 4095, 4097, 8192, -512, 1<<63 - 1, -1 << 63}

// entry is a key and its value.
func entry(key string, value string) api.Entry {
	return api.Entry{Key: []byte(key), Value: []byte(value)}
}

// of is the entries that a text such as "a=1 b=" tells.
func of(text string) []api.Entry {
	var list []api.Entry
	for _, word := range strings.Fields(text) {
		key, value, _ := strings.Cut(word, "=")
		list = append(list, entry(key, value))
	}
	return list
}

// each is entries of some keys of one byte, each with a value of so many bytes.
func each(keys string, long int) []api.Entry {
	var list []api.Entry
	for i := range len(keys) {
		list = append(list, entry(keys[i:i+1], strings.Repeat("v", long)))
	}
	return list
}

// show writes entries so that they can be told apart.
func show(l []api.Entry) string {
	var list []string
	for _, e := range l {
		list = append(list, fmt.Sprintf("%q=%q", e.Key, e.Value))
	}
	return strings.Join(list, " ")
}

// same tells whether entries are the same, none and nil being one.
func same(a []api.Entry, b []api.Entry) bool {
	return slices.EqualFunc(a, b, func(a, b api.Entry) bool {
		return bytes.Equal(a.Key, b.Key) && bytes.Equal(a.Value, b.Value)
	})
}

// copyOf is the same entries with other memory.
func copyOf(l []api.Entry) []api.Entry {
	var list []api.Entry
	for _, e := range l {
		list = append(list, entry(string(e.Key), string(e.Value)))
	}
	return list
}

// beginning is how many bytes two keys begin alike with, by the library's words.
func beginning(a string, b string) int {
	n := 0
	for n < len(b) && strings.HasPrefix(a, b[:n+1]) {
		n++
	}
	return n
}

// numbers are the bytes of some numbers, 2 of each.
func numbers(list ...int) string {
	var text []byte
	for _, n := range list {
		text = append(text, byte(n/256), byte(n%256))
	}
	return string(text)
}

// one is the bytes of one entry, of whose key so many are left out.
func one(left int, further string, value string) string {
	return numbers(left, len(further), len(value)) + further + value
}

// written is the bytes of entries, by the chapter's words.
func written(l []api.Entry) string {
	text, ahead := numbers(len(l)), ""
	for _, e := range l {
		key := string(e.Key)
		n := beginning(key, ahead)
		text += one(n, key[n:], string(e.Value))
		ahead = key
	}
	return text
}

// wrong is what Check must answer but for the size and for ErrLeafLong, by the library's order.
func wrong(size int, l []api.Entry) api.Errno {
	for i, e := range l {
		if len(e.Key) < 1 || len(e.Key) > size/16 {
			return api.ErrLeafKey
		}
		if len(e.Value) > size/4 {
			return api.ErrLeafValue
		}
		if i > 0 && string(e.Key) <= string(l[i-1].Key) {
			return api.ErrLeafOrder
		}
	}
	return api.OK
}

// mayBe is what Check must answer of one of the four sizes.
func mayBe(size int, l []api.Entry) api.Errno {
	if err := wrong(size, l); err != api.OK {
		return err
	}
	if len(written(l)) > size-32 {
		return api.ErrLeafLong
	}
	return api.OK
}

// halves is what Split must answer of one of the four sizes, each number tried.
func halves(size int, l []api.Entry) (int, api.Errno) {
	if len(l) < 2 {
		return 0, api.ErrArg
	}
	if err := wrong(size, l); err != api.OK {
		return 0, err
	}
	best, least := 0, 1<<30
	for n := 1; n <= len(l)-1; n++ {
		if greater := max(len(written(l[:n])), len(written(l[n:]))); greater < least {
			best, least = n, greater
		}
	}
	if least > size-32 {
		return 0, api.ErrLeafLong
	}
	return best, api.OK
}

// subsets are all lists that are made of a list by leaving some out.
func subsets(l []api.Entry) [][]api.Entry {
	list := [][]api.Entry{nil}
	for _, e := range l {
		for _, s := range slices.Clone(list) {
			list = append(list, append(slices.Clone(s), e))
		}
	}
	return list
}

// within is whether a range has a key, by the library's order.
func within(r api.Range, key string) bool {
	return key >= string(r.Lo) && (r.All || key < string(r.Hi))
}

// ranges are all that have two of these ends, empty ones and ones of All among them.
func ranges(ends ...string) []api.Range {
	var list []api.Range
	for _, lo := range ends {
		for _, hi := range ends {
			for _, all := range []bool{false, true} {
				list = append(list, api.Range{Lo: []byte(lo), Hi: []byte(hi), All: all})
			}
		}
	}
	return list
}

// dice are numbers that look thrown and are the same in every run.
type dice uint64

func (d *dice) next() uint64 {
	*d += 0x9e3779b97f4a7c15
	x := uint64(*d)
	x = (x ^ x>>30) * 0xbf58476d1ce4e5b9
	x = (x ^ x>>27) * 0x94d049bb133111eb
	return x ^ x>>31
}

func (d *dice) below(n int) int { return int(d.next() % uint64(n)) }

// text is so many bytes, of few letters, so that many keys begin alike.
func (d *dice) text(long int) string {
	const letters = "\x00a\x80\xff"
	var b strings.Builder
	for range long {
		b.WriteByte(letters[d.below(len(letters))])
	}
	return b.String()
}

// long is how many bytes there are, up to most: often the most, or few.
func (d *dice) long(least int, most int) int {
	switch d.below(4) {
	case 0:
		return most
	case 1:
		return min(most, least+d.below(4))
	}
	return least + d.below(most-least+1)
}

// key is one that may be, of a size; many begin with one of few beginnings, so that they have much alike.
func (d *dice) key(size int) string {
	long := d.long(1, size/16)
	head := strings.Repeat("b", d.below(2)*d.below(size/16))
	return (head + d.text(long))[:long]
}

// entries are so many that rise and are as they must be, whatever bytes they have in all.
func (d *dice) entries(size int, n int) []api.Entry {
	var list []api.Entry
	for range n {
		list = append(list, entry(d.key(size), strings.Repeat("v", d.long(0, size/4))))
	}
	slices.SortFunc(list, func(a, b api.Entry) int { return bytes.Compare(a.Key, b.Key) })
	return slices.CompactFunc(list, func(a, b api.Entry) bool { return bytes.Equal(a.Key, b.Key) })
}

// spoilt is one of some entries made another one, which perhaps may not be.
func (d *dice) spoilt(size int, l []api.Entry) []api.Entry {
	if len(l) == 0 {
		return l
	}
	e := &l[d.below(len(l))]
	switch d.below(5) {
	case 0:
		e.Key = nil
	case 1:
		e.Key = append(bytes.Clone(e.Key), d.text(size/16)...)
	case 2:
		e.Value = []byte(d.text(size/4 + 1))
	default:
		e.Key = []byte(d.key(size))
	}
	return l
}

// leaf is entries that may be a leaf, some of them nearly as many as there can be.
func (d *dice) leaf(size int) []api.Entry {
	var list []api.Entry
	for _, e := range d.entries(size, d.below(24)) {
		if longer := append(list, e); len(written(longer)) <= size-32 {
			list = longer
		}
	}
	return list
}
