package msg_test

import (
	"bytes"
	"fmt"
	"maps"
	"slices"
	"strconv"
	"strings"

	"banyan/api"
)

// sizes are the four that there are.
var sizes = []int{512, 1024, 2048, 4096}

// wrongSizes are some of the others: beside them, halves and doubles, and the ends of all numbers.
var wrongSizes = []int{0, 1, -1, 16, 256, 511, 513, 1023, 1025, 1536, 2047, 2049, 4095, 4097, 8192, -512, 1<<63 - 1, -1 << 63}

// put, del, cut are a message of each kind.
func put(stamp uint64, key string, value string) api.Msg {
	return api.Msg{Stamp: stamp, Kind: api.Put, Lo: []byte(key), Value: []byte(value)}
}

func del(stamp uint64, key string) api.Msg {
	return api.Msg{Stamp: stamp, Kind: api.Del, Lo: []byte(key)}
}

func cut(stamp uint64, lo string, hi string) api.Msg {
	return api.Msg{Stamp: stamp, Kind: api.DelRange, Lo: []byte(lo), Hi: []byte(hi)}
}

// other is a message of any kind, with bytes in all its parts.
func other(kind api.MsgKind, lo string, hi string, value string) api.Msg {
	return api.Msg{Stamp: 9, Kind: kind, Lo: []byte(lo), Hi: []byte(hi), Value: []byte(value)}
}

// of is the messages that a text tells as the chapter writes them: "p5 a=x, d6 a, r7 a-c".
func of(text string) []api.Msg {
	var list []api.Msg
	for _, word := range strings.Split(text, ", ") {
		head, rest, _ := strings.Cut(word, " ")
		stamp, _ := strconv.ParseUint(head[1:], 10, 64)
		switch head[0] {
		case 'p':
			key, value, _ := strings.Cut(rest, "=")
			list = append(list, put(stamp, key, value))
		case 'd':
			list = append(list, del(stamp, rest))
		case 'r':
			lo, hi, _ := strings.Cut(rest, "-")
			list = append(list, cut(stamp, lo, hi))
		}
	}
	return list
}

// entry is a key and its value.
func entry(key string, value string) api.Entry {
	return api.Entry{Key: []byte(key), Value: []byte(value)}
}

// entries are those that a text such as "a=1 b=" tells.
func entries(text string) []api.Entry {
	var list []api.Entry
	for _, word := range strings.Fields(text) {
		key, value, _ := strings.Cut(word, "=")
		list = append(list, entry(key, value))
	}
	return list
}

// show writes messages so that they can be told apart.
func show(m []api.Msg) string {
	var list []string
	for _, one := range m {
		list = append(list, fmt.Sprintf("%d:%d %.40q-%.40q %.40q", one.Kind, one.Stamp, one.Lo, one.Hi, one.Value))
	}
	return strings.Join(list, ", ")
}

// showEntries writes entries so that they can be told apart.
func showEntries(l []api.Entry) string {
	var list []string
	for _, e := range l {
		list = append(list, fmt.Sprintf("%q=%q", e.Key, e.Value))
	}
	return strings.Join(list, " ")
}

// showPieces writes pieces so that they can be told apart, whatever is in them.
func showPieces(l []api.Piece) string {
	var list []string
	for _, p := range l {
		list = append(list, fmt.Sprintf("%v %q=%q gone %s", p.Put, p.Key, p.Value, showRange(p.Gone)))
	}
	return strings.Join(list, ", ")
}

// showRange writes a range so that it can be told apart.
func showRange(r api.Range) string { return fmt.Sprintf("%q-%q %v", r.Lo, r.Hi, r.All) }

// same tells whether messages are the same, none and nil being one.
func same(a []api.Msg, b []api.Msg) bool {
	return slices.EqualFunc(a, b, func(a, b api.Msg) bool {
		return a.Stamp == b.Stamp && a.Kind == b.Kind && bytes.Equal(a.Lo, b.Lo) && bytes.Equal(a.Hi, b.Hi) && bytes.Equal(a.Value, b.Value)
	})
}

// sameEntries tells whether entries are the same, none and nil being one.
func sameEntries(a []api.Entry, b []api.Entry) bool {
	return slices.EqualFunc(a, b, func(a, b api.Entry) bool {
		return bytes.Equal(a.Key, b.Key) && bytes.Equal(a.Value, b.Value)
	})
}

// samePieces tells whether pieces are the same, none and nil being one.
func samePieces(a []api.Piece, b []api.Piece) bool { return showPieces(a) == showPieces(b) }

// copyOf is the same messages with other memory.
func copyOf(m []api.Msg) []api.Msg {
	list := slices.Clone(m)
	for i, one := range m {
		list[i].Lo, list[i].Hi, list[i].Value = bytes.Clone(one.Lo), bytes.Clone(one.Hi), bytes.Clone(one.Value)
	}
	return list
}

// do does messages to a map, one behind the other, by the chapter's words and the library's order.
func do(world map[string]string, m []api.Msg) {
	for _, one := range m {
		switch one.Kind {
		case 1:
			world[string(one.Lo)] = string(one.Value)
		case 2:
			delete(world, string(one.Lo))
		case 3:
			maps.DeleteFunc(world, func(key, _ string) bool { return key >= string(one.Lo) && key < string(one.Hi) })
		}
	}
}

// listed is the entries of a map, rising.
func listed(world map[string]string) []api.Entry {
	var list []api.Entry
	for _, key := range slices.Sorted(maps.Keys(world)) {
		list = append(list, entry(key, world[key]))
	}
	return list
}

// applied is what Apply must answer.
func applied(l []api.Entry, m []api.Msg) []api.Entry {
	world := map[string]string{}
	for _, e := range l {
		world[string(e.Key)] = string(e.Value)
	}
	do(world, m)
	return listed(world)
}

// What becomes of a key by messages: they say nothing of it; it goes; or it gets the value behind the sign.
const (
	unsaid = "unsaid"
	gone   = "gone"
	gets   = "="
)

// fate is what becomes of a key by messages: they are done to a map that has it, and to one that has it not.
func fate(m []api.Msg, key string) string {
	with, without := map[string]string{key: "a value that no message has"}, map[string]string{}
	do(with, m)
	do(without, m)
	if value, there := without[key]; there {
		return gets + value
	}
	if _, there := with[key]; there {
		return unsaid
	}
	return gone
}

// ends are all keys at which what messages say may begin to be otherwise: between two that stand side by side all keys fare alike.
func ends(m []api.Msg, more ...string) []string {
	list := append([]string{""}, more...)
	for _, one := range m {
		list = append(list, string(one.Lo), string(one.Lo)+"\x00", string(one.Hi))
	}
	slices.Sort(list)
	return slices.Compact(list)
}

// within is whether a range has a key, by the library's order.
func within(r api.Range, key string) bool {
	return key >= string(r.Lo) && (r.All || key < string(r.Hi))
}

// settled is what Settle must answer: a message stays, if there is a key of which it says something and no later one does.
func settled(m []api.Msg) []api.Msg {
	var list []api.Msg
	for i := range m {
		if slices.ContainsFunc(ends(m), func(key string) bool {
			return fate(m[i:i+1], key) != unsaid && fate(m[i+1:], key) == unsaid
		}) {
			list = append(list, m[i])
		}
	}
	return list
}

// cutTo is what Within must answer.
func cutTo(m []api.Msg, r api.Range) []api.Msg {
	var list []api.Msg
	for _, one := range m {
		switch one.Kind {
		case 1, 2:
			if within(r, string(one.Lo)) {
				list = append(list, one)
			}
		case 3:
			lo, hi := max(string(one.Lo), string(r.Lo)), string(one.Hi)
			if !r.All {
				hi = min(hi, string(r.Hi))
			}
			if lo < hi {
				one.Lo, one.Hi = []byte(lo), []byte(hi)
				list = append(list, one)
			}
		}
	}
	return list
}

// digits are the bytes of a number, so many, the highest first.
func digits(wide int, n uint64) string {
	text := ""
	for range wide {
		text = string([]byte{byte(n % 256)}) + text
		n /= 256
	}
	return text
}

// head is what stands ahead of the Lo of a message.
func head(stamp uint64, kind uint64, lo int, tail int) string {
	return digits(8, stamp) + digits(1, kind) + digits(2, uint64(lo)) + digits(2, uint64(tail))
}

// raw is the bytes of one message, whatever may be.
func raw(stamp uint64, kind uint64, lo string, tail string) string {
	return head(stamp, kind, len(lo), len(tail)) + lo + tail
}

// written is the bytes of messages that may be, by the chapter's words.
func written(m []api.Msg) string {
	var text strings.Builder
	text.WriteString(digits(4, uint64(len(m))))
	for _, one := range m {
		tail := ""
		switch one.Kind {
		case api.Put:
			tail = string(one.Value)
		case api.DelRange:
			tail = string(one.Hi)
		}
		text.WriteString(raw(one.Stamp, uint64(one.Kind), string(one.Lo), tail))
	}
	return text.String()
}

// mayBe is what Check must answer of one of the four sizes.
func mayBe(size int, m []api.Msg) api.Errno {
	key := func(b []byte) bool { return len(b) >= 1 && len(b) <= size/16 }
	for i, one := range m {
		good := false
		switch one.Kind {
		case 1:
			good = key(one.Lo) && len(one.Hi) == 0 && len(one.Value) <= size/4
		case 2:
			good = key(one.Lo) && len(one.Hi) == 0 && len(one.Value) == 0
		case 3:
			good = key(one.Lo) && key(one.Hi) && string(one.Hi) > string(one.Lo) && len(one.Value) == 0
		}
		if !good {
			return api.ErrMsgKind
		}
		if one.Stamp < 1 || one.Stamp > 1<<62 || i > 0 && one.Stamp <= m[i-1].Stamp {
			return api.ErrMsgStamp
		}
	}
	return api.OK
}

// toldBy is what Decode must answer of one of the four sizes: the messages of the only list that could have these bytes, if it has.
func toldBy(size int, text string) ([]api.Msg, api.Errno) {
	at := 4
	number := func(wide int) (n uint64) {
		for range wide {
			n *= 256
			if at < len(text) {
				n += uint64(text[at])
			}
			at++
		}
		return n
	}
	part := func(n uint64) []byte {
		from := min(at, len(text))
		at = min(from+int(n), len(text))
		return []byte(text[from:at])
	}
	var m []api.Msg
	for at < len(text) {
		one := api.Msg{Stamp: number(8), Kind: api.MsgKind(number(1))}
		lo, tail := number(2), number(2)
		one.Lo = part(lo)
		if one.Kind == api.Put {
			one.Value = part(tail)
		} else {
			one.Hi = part(tail)
		}
		m = append(m, one)
	}
	if mayBe(size, m) != api.OK || written(m) != text {
		return nil, api.ErrMsgForm
	}
	return m, api.OK
}

// fateByPieces is what pieces say of a key, and how many of them do.
func fateByPieces(l []api.Piece, key string) (string, int) {
	told, count := unsaid, 0
	for _, p := range l {
		switch {
		case p.Put && string(p.Key) == key:
			told, count = gets+string(p.Value), count+1
		case !p.Put && within(p.Gone, key):
			told, count = gone, count+1
		}
	}
	return told, count
}

// wrongForm tells what is wrong with the form of a piece, whatever it says.
func wrongForm(p api.Piece) string {
	switch {
	case p.Put && (len(p.Gone.Lo) > 0 || len(p.Gone.Hi) > 0 || p.Gone.All):
		return "a Put has a range"
	case !p.Put && (len(p.Key) > 0 || len(p.Value) > 0):
		return "a range has a key or a value"
	case !p.Put && (p.Gone.All || string(p.Gone.Hi) <= string(p.Gone.Lo)):
		return "a range is of All, or empty"
	}
	return ""
}

// place is where a piece stands.
func place(p api.Piece) string {
	if p.Put {
		return string(p.Key)
	}
	return string(p.Gone.Lo)
}

// wrongWith tells what is wrong with pieces as a Meaning; nothing, if they have its form, and say of each key what becomes of it.
func wrongWith(m []api.Msg, l []api.Piece) string {
	var more []string
	for i, p := range l {
		if wrong := wrongForm(p); wrong != "" {
			return wrong
		}
		if i > 0 && place(p) <= place(l[i-1]) {
			return "the pieces do not rise"
		}
		for _, ahead := range l[:i] {
			if !ahead.Put && !p.Put && string(ahead.Gone.Hi) >= place(p) {
				return "two ranges meet or touch"
			}
		}
		more = append(more, place(p), place(p)+"\x00", string(p.Gone.Hi))
	}
	for _, key := range ends(m, more...) {
		if told, count := fateByPieces(l, key); told != fate(m, key) || count > 1 {
			return fmt.Sprintf("of %q they say %q, %d of them, and it is %q", key, told, count, fate(m, key))
		}
	}
	return ""
}

// ofPieces is messages that do what pieces say: backward, or in their order.
func ofPieces(l []api.Piece, backward bool) []api.Msg {
	var list []api.Msg
	for _, p := range l {
		if p.Put {
			list = append(list, put(1, string(p.Key), string(p.Value)))
		} else {
			list = append(list, cut(1, string(p.Gone.Lo), string(p.Gone.Hi)))
		}
	}
	if backward {
		slices.Reverse(list)
	}
	return list
}

// singles are messages over few keys, one of which is a beginning of others and one without bytes: Puts, Dels, ranges, empty ones, and some that do nothing.
func singles() []api.Msg {
	keys := []string{"", "a", "a\x00", "b"}
	list := []api.Msg{put(5, "a", "y"), other(0, "a", "b", "v"), other(4, "", "b", "v"), other(-1, "a", "", ""), cut(5, "b", "a"), cut(5, "a", "a")}
	for i, lo := range keys {
		list = append(list, put(5, lo, "x"), del(5, lo))
		for _, hi := range keys[i+1:] {
			list = append(list, cut(5, lo, hi))
		}
	}
	return list
}

// lists are all lists of at most so many of some messages.
func lists(singles []api.Msg, most int) [][]api.Msg {
	all := [][]api.Msg{nil}
	from := 0
	for range most {
		to := len(all)
		for _, l := range all[from:to] {
			for _, one := range singles {
				all = append(all, append(slices.Clone(l), one))
			}
		}
		from = to
	}
	return all
}

// ranges are all that have two of these ends, empty ones and ones of All with every Hi among them.
func ranges(ends ...string) []api.Range {
	var list []api.Range
	for _, lo := range ends {
		for _, hi := range ends {
			for _, all := range []bool{false, true} {
				list = append(list, api.Range{Lo: []byte(lo), Hi: []byte(hi), All: all})
			}
		}
	}
	return list
}

// dice are numbers that look thrown and are the same in every run.
type dice uint64

func (d *dice) next() uint64 {
	*d += 0x9e3779b97f4a7c15
	x := uint64(*d)
	x = (x ^ x>>30) * 0xbf58476d1ce4e5b9
	x = (x ^ x>>27) * 0x94d049bb133111eb
	return x ^ x>>31
}

func (d *dice) below(n int) int { return int(d.next() % uint64(n)) }

// text is so many bytes, of few letters, so that many keys are alike or begin alike.
func (d *dice) text(long int) string {
	const letters = "\x00a\x80\xff"
	var b strings.Builder
	for range long {
		b.WriteByte(letters[d.below(len(letters))])
	}
	return b.String()
}

// key is one that may be, of a size: mostly of few bytes, at times of the most.
func (d *dice) key(size int) string {
	if d.below(8) == 0 {
		return d.text(size / 16)
	}
	return d.text(1 + d.below(3))
}

// message is one that may be, of a size, but for its stamp.
func (d *dice) message(size int) api.Msg {
	a, b := d.key(size), d.key(size)
	switch {
	case d.below(3) == 0:
		return del(0, a)
	case a == b || d.below(2) == 0:
		return put(0, a, strings.Repeat("v", d.below(4)*size/12))
	}
	return cut(0, min(a, b), max(a, b))
}

// messages are so many that may be, of a size.
func (d *dice) messages(size int, n int) []api.Msg {
	stamp := []uint64{0, uint64(d.below(1 << 40)), 1<<62 - uint64(16*n)}[d.below(3)]
	var list []api.Msg
	for range n {
		one := d.message(size)
		stamp += 1 + uint64(d.below(16))
		one.Stamp = stamp
		list = append(list, one)
	}
	return list
}

// spoilt is messages of which one part of one is another one, which perhaps may not be.
func (d *dice) spoilt(size int, m []api.Msg) []api.Msg {
	if len(m) == 0 {
		return m
	}
	one := &m[d.below(len(m))]
	stamps := []uint64{0, 1, 2, 1 << 62, 1<<62 + 1, 1 << 63, 1<<64 - 1, m[d.below(len(m))].Stamp}
	kinds := []api.MsgKind{0, 1, 2, 3, 4, -1, 255, 256, 257, 1 << 62, -1 << 63}
	texts := []string{"", "a", d.key(size), d.text(size / 16), d.text(size/16 + 1), d.text(size / 4), d.text(size/4 + 1)}
	text := []byte(texts[d.below(len(texts))])
	switch d.below(5) {
	case 0:
		one.Stamp = stamps[d.below(len(stamps))]
	case 1:
		one.Kind = kinds[d.below(len(kinds))]
	case 2:
		one.Lo = text
	case 3:
		one.Hi = text
	case 4:
		one.Value = text
	}
	return m
}

// strange are messages of which few may be: with any stamps, kinds and bytes in all parts.
func (d *dice) strange(n int) []api.Msg {
	var list []api.Msg
	for range n {
		one := other(api.MsgKind(d.below(40)%5), d.text(d.below(4)), d.text(d.below(4)), d.text(d.below(3)))
		one.Stamp = d.next()
		list = append(list, one)
	}
	return list
}

// rangeOf is any range over the same letters.
func (d *dice) rangeOf() api.Range {
	return api.Range{Lo: []byte(d.text(d.below(4))), Hi: []byte(d.text(d.below(4))), All: d.below(5) == 0}
}
