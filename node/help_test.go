package node_test

import (
	"bytes"
	"fmt"
	"slices"
	"strconv"
	"strings"

	"banyan/api"
	"banyan/branch"
	"banyan/msg"
)

// sizes are the four that there are.
var sizes = []int{512, 1024, 2048, 4096}

// wrongSizes are some of the others: beside them, halves and doubles, and the ends of all numbers.
var wrongSizes = []int{0, 1, -1, 32, 256, 511, 513, 1023, 1025, 1536, 2047, 2049, 4095, 4097, 8192, -512, 1<<63 - 1, -1 << 63}

// kids are children with keys between them, told as words.
func kids(keys string, pages ...int) api.Kids {
	k := api.Kids{Pages: pages}
	for _, word := range strings.Fields(keys) {
		k.Keys = append(k.Keys, []byte(word))
	}
	return k
}

// with are children 2, 3, .. with these keys between them.
func with(keys ...string) api.Kids {
	k := api.Kids{Pages: []int{2}}
	for i, key := range keys {
		k.Pages = append(k.Pages, 3+i)
		k.Keys = append(k.Keys, []byte(key))
	}
	return k
}

// example is the K of the chapter.
func example() api.Kids { return kids("c f", 5, 9, 4) }

// put, del, cut are a message of each kind.
func put(stamp uint64, key string, value string) api.Msg {
	return api.Msg{Stamp: stamp, Kind: api.Put, Lo: []byte(key), Value: []byte(value)}
}

func del(stamp uint64, key string) api.Msg {
	return api.Msg{Stamp: stamp, Kind: api.Del, Lo: []byte(key)}
}

func cut(stamp uint64, lo string, hi string) api.Msg {
	return api.Msg{Stamp: stamp, Kind: api.DelRange, Lo: []byte(lo), Hi: []byte(hi)}
}

// of is the messages that a text tells as the chapter writes them: "p5 a=x, d6 a, r7 a-c"; none, if it is empty.
func of(text string) []api.Msg {
	var list []api.Msg
	for _, word := range strings.Split(text, ", ") {
		head, rest, there := strings.Cut(word, " ")
		if !there {
			continue
		}
		stamp, _ := strconv.ParseUint(head[1:], 10, 64)
		switch head[0] {
		case 'p':
			key, value, _ := strings.Cut(rest, "=")
			list = append(list, put(stamp, key, value))
		case 'd':
			list = append(list, del(stamp, rest))
		case 'r':
			lo, hi, _ := strings.Cut(rest, "-")
			list = append(list, cut(stamp, lo, hi))
		}
	}
	return list
}

// made is a node of children and messages.
func made(k api.Kids, m ...api.Msg) api.Buffered { return api.Buffered{Kids: k, Msgs: m} }

// told is a node of children and of the messages that a text tells.
func told(k api.Kids, text string) api.Buffered { return made(k, of(text)...) }

// ofExample is the chapter's K with the messages that a text tells.
func ofExample(text string) api.Buffered { return told(example(), text) }

// show writes a node so that it can be told apart.
func show(n api.Buffered) string {
	if len(n.Kids.Pages) > 40 {
		return fmt.Sprintf("%d children, %d keys; %.400s", len(n.Kids.Pages), len(n.Kids.Keys), showMsgs(n.Msgs))
	}
	return fmt.Sprintf("%v %.40q; %s", n.Kids.Pages, n.Kids.Keys, showMsgs(n.Msgs))
}

// showMsgs writes messages so that they can be told apart.
func showMsgs(m []api.Msg) string {
	var list []string
	for _, one := range m {
		list = append(list, fmt.Sprintf("%d:%d %.40q-%.40q %.20q", one.Kind, one.Stamp, one.Lo, one.Hi, one.Value))
	}
	return strings.Join(list, ", ")
}

// sameKids tells whether children and keys are the same, none and nil being one.
func sameKids(a api.Kids, b api.Kids) bool {
	return slices.Equal(a.Pages, b.Pages) && slices.EqualFunc(a.Keys, b.Keys, bytes.Equal)
}

// sameMsgs tells whether messages are the same, none and nil being one.
func sameMsgs(a []api.Msg, b []api.Msg) bool {
	return slices.EqualFunc(a, b, func(a, b api.Msg) bool {
		return a.Stamp == b.Stamp && a.Kind == b.Kind && bytes.Equal(a.Lo, b.Lo) && bytes.Equal(a.Hi, b.Hi) && bytes.Equal(a.Value, b.Value)
	})
}

// same tells whether two nodes are, none and nil being one.
func same(a api.Buffered, b api.Buffered) bool {
	return sameKids(a.Kids, b.Kids) && sameMsgs(a.Msgs, b.Msgs)
}

// none tells whether there is nothing, as beside an error.
func none(n api.Buffered) bool { return same(n, api.Buffered{}) }

// copyMsgs is the same messages with other memory.
func copyMsgs(m []api.Msg) []api.Msg {
	list := slices.Clone(m)
	for i, one := range m {
		list[i].Lo, list[i].Hi, list[i].Value = bytes.Clone(one.Lo), bytes.Clone(one.Hi), bytes.Clone(one.Value)
	}
	return list
}

// copyOf is the same node with other memory.
func copyOf(n api.Buffered) api.Buffered {
	c := api.Buffered{Kids: api.Kids{Pages: slices.Clone(n.Kids.Pages)}, Msgs: copyMsgs(n.Msgs)}
	for _, key := range n.Kids.Keys {
		c.Kids.Keys = append(c.Kids.Keys, bytes.Clone(key))
	}
	return c
}

// digits are the bytes of a number, so many, the highest first.
func digits(wide int, n uint64) string {
	text := ""
	for range wide {
		text = string([]byte{byte(n % 256)}) + text
		n /= 256
	}
	return text
}

// raw is the bytes of one message, whatever may be.
func raw(stamp uint64, kind uint64, lo string, tail string) string {
	return digits(8, stamp) + digits(1, kind) + digits(2, uint64(len(lo))) + digits(2, uint64(len(tail))) + lo + tail
}

// writtenKids is the bytes of children and keys, by chapter 6.
func writtenKids(k api.Kids) string {
	var text strings.Builder
	text.WriteString(digits(2, uint64(len(k.Pages))))
	for _, page := range k.Pages {
		text.WriteString(digits(4, uint64(page)))
	}
	for _, key := range k.Keys {
		text.WriteString(digits(2, uint64(len(key))) + string(key))
	}
	return text.String()
}

// writtenMsgs is the bytes of messages each of which may be, by chapter 7.
func writtenMsgs(m []api.Msg) string {
	var text strings.Builder
	text.WriteString(digits(4, uint64(len(m))))
	for _, one := range m {
		text.WriteString(raw(one.Stamp, uint64(one.Kind), string(one.Lo), string(one.Hi)+string(one.Value)))
	}
	return text.String()
}

// written is the bytes of a node of which each message may be.
func written(n api.Buffered) string { return writtenKids(n.Kids) + writtenMsgs(n.Msgs) }

// kidsBytes, msgsBytes and allBytes are how many bytes these are; written would tell it too, and much slower.
func kidsBytes(k api.Kids) int {
	n := 2 + 4*len(k.Pages) + 2*len(k.Keys)
	for _, key := range k.Keys {
		n += len(key)
	}
	return n
}

func msgsBytes(m []api.Msg) int {
	n := 4 + 13*len(m)
	for _, one := range m {
		n += len(one.Lo) + len(one.Hi) + len(one.Value)
	}
	return n
}

func allBytes(n api.Buffered) int { return kidsBytes(n.Kids) + msgsBytes(n.Msgs) }

// childOf is the child that a key has, by the library's order.
func childOf(k api.Kids, key []byte) int {
	for i := range k.Keys {
		if string(k.Keys[i]) > string(key) {
			return i
		}
	}
	return len(k.Keys)
}

// fault is what is wrong with the first message that is not as it must be, by the chapter's words.
func fault(size int, n api.Buffered) api.Errno {
	for i, one := range n.Msgs {
		if err := msg.Check(size, []api.Msg{one}); err != api.OK {
			return err
		}
		for _, key := range n.Kids.Keys {
			if one.Kind == api.DelRange && string(key) > string(one.Lo) && string(key) < string(one.Hi) {
				return api.ErrNodeRange
			}
		}
		if i == 0 {
			continue
		}
		ahead, child := childOf(n.Kids, n.Msgs[i-1].Lo), childOf(n.Kids, one.Lo)
		if ahead > child || ahead == child && n.Msgs[i-1].Stamp >= one.Stamp {
			return api.ErrMsgStamp
		}
	}
	return api.OK
}

// mayBe is what Check must answer of one of the four sizes.
func mayBe(size int, n api.Buffered) api.Errno {
	if err := branch.Check(size, n.Kids); err != api.OK {
		return err
	}
	if kidsBytes(n.Kids) > (size-32)/2 {
		return api.ErrNodeRoom
	}
	if err := fault(size, n); err != api.OK {
		return err
	}
	if allBytes(n) > size-32 {
		return api.ErrNodeLong
	}
	return api.OK
}

// toldBy is what Decode must answer of one of the four sizes: the only node that could have these bytes, if it has.
func toldBy(size int, text string) (api.Buffered, api.Errno) {
	at := 0
	number := func(wide int) (n uint64) {
		for range wide {
			n *= 256
			if at < len(text) {
				n += uint64(text[at])
			}
			at++
		}
		return n
	}
	part := func(n uint64) []byte {
		from := min(at, len(text))
		at = min(from+int(n), len(text))
		return []byte(text[from:at])
	}
	var n api.Buffered
	count := number(2)
	for i := uint64(0); i < count && at < len(text); i++ {
		n.Kids.Pages = append(n.Kids.Pages, int(number(4)))
	}
	for i := uint64(1); i < count && at < len(text); i++ {
		n.Kids.Keys = append(n.Kids.Keys, part(number(2)))
	}
	for number(4); at < len(text); {
		one := api.Msg{Stamp: number(8), Kind: api.MsgKind(number(1))}
		lo, tail := number(2), number(2)
		one.Lo = part(lo)
		if one.Kind == api.Put {
			one.Value = part(tail)
		} else {
			one.Hi = part(tail)
		}
		n.Msgs = append(n.Msgs, one)
	}
	if mayBe(size, n) != api.OK || written(n) != text {
		return api.Buffered{}, api.ErrNodeForm
	}
	return n, api.OK
}

// messagesFor are those of a node that are for the children from i up to j.
func messagesFor(n api.Buffered, i int, j int) []api.Msg {
	var list []api.Msg
	for _, one := range n.Msgs {
		if child := childOf(n.Kids, one.Lo); child >= i && child < j {
			list = append(list, one)
		}
	}
	return list
}

// halves are the two that a number of Split stands for, by the chapter's words.
func halves(n api.Buffered, k int) (api.Buffered, api.Buffered) {
	all := len(n.Kids.Pages)
	first := api.Kids{Pages: n.Kids.Pages[:k], Keys: n.Kids.Keys[:k-1]}
	others := api.Kids{Pages: n.Kids.Pages[k:], Keys: n.Kids.Keys[k:]}
	return made(first, messagesFor(n, 0, k)...), made(others, messagesFor(n, k, all)...)
}

// splitAt is what Split must answer of one of the four sizes, each number tried.
func splitAt(size int, n api.Buffered) (int, api.Errno) {
	if err := branch.Check(size, n.Kids); err != api.OK && err != api.ErrBranchLong {
		return 0, err
	}
	if len(n.Kids.Pages) < 4 {
		return 0, api.ErrBranchKids
	}
	if err := fault(size, n); err != api.OK {
		return 0, err
	}
	best, least := 0, 1<<30
	for k := 2; k <= len(n.Kids.Pages)-2; k++ {
		first, others := halves(n, k)
		if greater := max(allBytes(first), allBytes(others)); greater < least {
			best, least = k, greater
		}
	}
	if first, others := halves(n, best); mayBe(size, first) != api.OK || mayBe(size, others) != api.OK {
		return 0, api.ErrNodeLong
	}
	return best, api.OK
}

// filled is children with keys of so many bytes in all, each key as it may be; the keys between rise.
func filled(size int, room int) api.Kids {
	k := with("a0")
	for kidsBytes(k) < room {
		spare := room - kidsBytes(k)
		more := min(spare-6, size/16)
		if rest := spare - 6 - more; rest > 0 && rest < 8 {
			more -= 8
		}
		mark := string([]byte{'b' + byte(len(k.Keys)/64), ' ' + byte(len(k.Keys)%64)})
		k.Pages = append(k.Pages, 2+len(k.Pages))
		k.Keys = append(k.Keys, []byte(mark+strings.Repeat("x", more-2)))
	}
	return k
}

// stuffed is Puts for the child that has the key, of so many bytes in all; each of them has a value as it may be.
func stuffed(size int, key string, stamp uint64, room int) []api.Msg {
	var list []api.Msg
	for room > 0 {
		stamp++
		long := min(room-13-len(key), size/4)
		// What is left must be a message again.
		if rest := room - 13 - len(key) - long; rest > 0 && rest < 13+len(key) {
			long -= 13 + len(key)
		}
		list = append(list, put(stamp, key, strings.Repeat("v", long)))
		room -= 13 + len(key) + long
	}
	return list
}

// strange are nodes that may not be, some of which have more keys than children, or fewer.
func strange() []api.Buffered {
	m := of("p5 a=x, r9 a-z, d4 , r3 z-a, p5 zz=x, d1 b")
	m = append(m, api.Msg{}, api.Msg{Kind: 9, Lo: []byte("b"), Hi: []byte("c"), Value: []byte("v")}, api.Msg{Stamp: 1<<64 - 1, Kind: -1})
	var list []api.Buffered
	for _, k := range []api.Kids{
		{}, {Pages: []int{}, Keys: [][]byte{}}, {Keys: [][]byte{[]byte("a")}}, {Keys: [][]byte{nil, nil}}, {Pages: []int{0, -1, 0, 1 << 40}},
		kids("a", 5), kids("", 5), kids("", 5, 6), kids("a b", 5, 6), kids("a b c d e", 5, 6), kids("a", 5, 6, 7, 8), kids("z y x a", 5, 6, 7, 8, 9), kids("b b b", 5, 5, 5, 5), with("", ""), with("b", "", strings.Repeat("k", 5000)),
	} {
		list = append(list, made(k), made(k, m...), made(k, m[0], m[0]))
	}
	return list
}

// dice are numbers that look thrown and are the same in every run.
type dice uint64

func (d *dice) next() uint64 {
	*d += 0x9e3779b97f4a7c15
	x := uint64(*d)
	x = (x ^ x>>30) * 0xbf58476d1ce4e5b9
	x = (x ^ x>>27) * 0x94d049bb133111eb
	return x ^ x>>31
}

func (d *dice) below(n int) int { return int(d.next() % uint64(n)) }

// text is so many bytes, of few letters, so that many keys are alike or begin alike.
func (d *dice) text(long int) string {
	const letters = "\x00a\x80\xff"
	var b strings.Builder
	for range long {
		b.WriteByte(letters[d.below(len(letters))])
	}
	return b.String()
}

// key is one that may be, of a size: mostly of few bytes, at times of the most.
func (d *dice) key(size int) string {
	if d.below(10) == 0 {
		return d.text(size / 16)
	}
	return d.text(1 + d.below(4))
}

// kids are so many children, or a few fewer, that may be a branch but for how many bytes they have; two at least.
func (d *dice) kids(size int, n int) api.Kids {
	keys := []string{d.key(size)}
	for range n - 2 {
		keys = append(keys, d.key(size))
	}
	slices.Sort(keys)
	k := with(slices.Compact(keys)...)
	for i := range k.Pages {
		j := i + d.below(len(k.Pages)-i)
		k.Pages[i], k.Pages[j] = k.Pages[j], k.Pages[i]
	}
	return k
}

// message is one that may be in a node, but for its stamp: a range ends where the child does, or ahead of that.
func (d *dice) message(size int, k api.Kids) api.Msg {
	a, b := d.key(size), d.key(size)
	if d.below(6) == 0 {
		// A key that stands between two children, or the one just ahead of or behind it.
		a = string(k.Keys[d.below(len(k.Keys))])
	}
	switch {
	case d.below(3) == 0:
		return del(0, a)
	case a == b || d.below(2) == 0:
		return put(0, a, strings.Repeat("v", d.below(4)*d.below(size/12)))
	}
	lo, hi := min(a, b), max(a, b)
	if child := childOf(k, []byte(lo)); child < len(k.Keys) {
		hi = min(hi, string(k.Keys[child]))
	}
	return cut(0, lo, hi)
}

// stamped is messages as they may stand in a node: child by child, with stamps that rise for each child by itself.
func (d *dice) stamped(k api.Kids, m []api.Msg) []api.Msg {
	slices.SortStableFunc(m, func(a, b api.Msg) int { return childOf(k, a.Lo) - childOf(k, b.Lo) })
	stamp, last := uint64(0), -1
	for i := range m {
		if child := childOf(k, m[i].Lo); child != last {
			stamp, last = []uint64{0, uint64(d.below(1 << 40)), 1<<62 - uint64(16*len(m))}[d.below(3)], child
		}
		stamp += 1 + uint64(d.below(16))
		m[i].Stamp = stamp
	}
	return m
}

// long is a node that may be, but for how many bytes it has: about so many children and messages.
func (d *dice) long(size int, children int, messages int) api.Buffered {
	k := d.kids(size, max(2, children))
	var m []api.Msg
	for range messages {
		m = append(m, d.message(size, k))
	}
	return made(k, d.stamped(k, m)...)
}

// node is one that may be, some of them with nearly as many bytes as there is room for.
func (d *dice) node(size int) api.Buffered {
	n := d.long(size, 2+d.below(size/32), d.below(size/16))
	for kidsBytes(n.Kids) > (size-32)/2 {
		last := len(n.Kids.Keys) - 1
		n.Kids.Pages, n.Kids.Keys = n.Kids.Pages[:last+1], n.Kids.Keys[:last]
	}
	n.Msgs = d.stamped(n.Kids, n.Msgs)
	for allBytes(n) > size-32 {
		at := d.below(len(n.Msgs))
		n.Msgs = slices.Delete(n.Msgs, at, at+1)
	}
	return n
}

// spoilt is a node of which one thing is another one, which perhaps may not be.
func (d *dice) spoilt(size int, n api.Buffered) api.Buffered {
	texts := []string{"", "a", d.key(size), d.text(size / 16), d.text(size/16 + 1), d.text(size/4 + 1), string(n.Kids.Keys[d.below(len(n.Kids.Keys))])}
	text := []byte(texts[d.below(len(texts))])
	if len(n.Msgs) == 0 || d.below(6) == 0 {
		numbers := []int{0, 1, 2, -1, 65535, 65536, 1 << 33, n.Kids.Pages[d.below(len(n.Kids.Pages))]}
		switch d.below(3) {
		case 0:
			n.Kids.Pages[d.below(len(n.Kids.Pages))] = numbers[d.below(len(numbers))]
		case 1:
			n.Kids.Keys = append(n.Kids.Keys, text)
		default:
			n.Kids.Keys[d.below(len(n.Kids.Keys))] = text
		}
		return n
	}
	one, other := &n.Msgs[d.below(len(n.Msgs))], &n.Msgs[d.below(len(n.Msgs))]
	stamps := []uint64{0, 1, 2, 1 << 62, 1<<62 + 1, 1<<64 - 1, other.Stamp}
	kinds := []api.MsgKind{0, 1, 2, 3, 4, -1, 255, 257, -1 << 63}
	switch d.below(9) {
	case 0, 1:
		one.Stamp = stamps[d.below(len(stamps))]
	case 2:
		one.Kind = kinds[d.below(len(kinds))]
	case 3, 4:
		one.Lo = text
	case 5, 6:
		one.Hi = text
	case 7:
		one.Value = text
	default:
		*one, *other = *other, *one
	}
	return n
}
