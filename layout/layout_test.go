package layout

import (
	"math"
	"math/rand/v2"
	"slices"
	"strings"
	"testing"

	"stele/api"
	"stele/erasure"
)

// The sizes as the document writes them.
const (
	blockBytes  = 28
	mostData    = 8
	mostSpare   = 7
	mostStripes = 65536
	lastOffset  = 2147483647
)

// A second computation: it walks over the positions byte by byte.

// walk calls a function for each of the first offsets of a stream with the position that comes next.
func walk(data, count int, visit func(offset int, p api.Position)) {
	var p api.Position
	for offset := range count {
		visit(offset, p)
		p.Offset++
		if p.Offset == blockBytes {
			p.Offset = 0
			p.Reel++
		}
		if p.Reel == data {
			p.Reel = 0
			p.Stripe++
		}
	}
}

// otherStripes returns the stripes of a stream, whose bytes are written to zero blocks one by one.
func otherStripes(t *testing.T, l api.Layout, stream string) [][]string {
	t.Helper()
	var written [][][]byte
	walk(l.Data, len(stream), func(offset int, p api.Position) {
		if p.Stripe == len(written) {
			var blocks [][]byte
			for range l.Data {
				blocks = append(blocks, make([]byte, blockBytes))
			}
			written = append(written, blocks)
		}
		written[p.Stripe][p.Reel][p.Offset] = stream[offset]
	})
	var list [][]string
	for _, blocks := range written {
		var stripe []string
		for _, b := range blocks {
			stripe = append(stripe, string(b))
		}
		list = append(list, withSpares(t, l, stripe))
	}
	return list
}

// withSpares returns data blocks followed by their spare blocks.
func withSpares(t *testing.T, l api.Layout, data []string) []string {
	t.Helper()
	spares, e := erasure.Encode(data, l.Spare)
	if e != api.OK || len(spares) != l.Spare {
		t.Fatalf("%d spare blocks of %q: %d", l.Spare, data, e)
	}
	return append(slices.Clone(data), spares...)
}

// Helpers.

// random returns the tests' source of random numbers.
func random() *rand.Rand {
	return rand.New(rand.NewPCG(16, 1))
}

// randomStream returns a stream of random bytes.
func randomStream(r *rand.Rand, length int) string {
	b := make([]byte, length)
	for i := range b {
		b[i] = byte(r.Uint32())
	}
	return string(b)
}

// layouts returns all valid layouts.
func layouts() []api.Layout {
	var list []api.Layout
	for data := 1; data <= mostData; data++ {
		for spare := 0; spare <= mostSpare; spare++ {
			list = append(list, api.Layout{Data: data, Spare: spare})
		}
	}
	return list
}

// invalidLayouts returns layouts of which at least one number is out of its range.
func invalidLayouts() []api.Layout {
	outside := []int{-1, -2, -7, -8, -256, 9, 10, 15, 256, 257, 1 << 32, math.MinInt, math.MinInt + 1, math.MaxInt, math.MaxInt - 1}
	list := []api.Layout{{}}
	for spare := range mostSpare + 1 {
		list = append(list, api.Layout{Data: 0, Spare: spare})
		for _, n := range outside {
			list = append(list, api.Layout{Data: n, Spare: spare})
		}
	}
	for data := range mostData + 1 {
		list = append(list, api.Layout{Data: data, Spare: mostSpare + 1})
		for _, n := range outside {
			list = append(list, api.Layout{Data: data, Spare: n})
		}
	}
	for _, n := range outside {
		list = append(list, api.Layout{Data: n, Spare: n})
	}
	return list
}

// checkLocate compares Locate with the wanted result.
func checkLocate(t *testing.T, l api.Layout, offset int, want api.Position, e api.Errno) {
	t.Helper()
	if got, f := Locate(l, offset); got != want || f != e {
		t.Fatalf("Locate(%v, %d) = %v, %d, want %v, %d", l, offset, got, f, want, e)
	}
}

// checkOffset compares Offset with the wanted result.
func checkOffset(t *testing.T, l api.Layout, p api.Position, want int, e api.Errno) {
	t.Helper()
	if got, f := Offset(l, p); got != want || f != e {
		t.Fatalf("Offset(%v, %v) = %d, %d, want %d, %d", l, p, got, f, want, e)
	}
}

// checkPair checks that an offset and a position belong to each other.
func checkPair(t *testing.T, l api.Layout, offset int, p api.Position) {
	t.Helper()
	checkLocate(t, l, offset, p, api.OK)
	checkOffset(t, l, p, offset, api.OK)
}

// checkStripes compares Stripes with the wanted result.
func checkStripes(t *testing.T, l api.Layout, stream string, want [][]string, e api.Errno) {
	t.Helper()
	if got, f := Stripes(l, stream); !slices.EqualFunc(got, want, slices.Equal) || f != e {
		t.Fatalf("Stripes(%v, %d bytes) = %q, %d, want %q, %d", l, len(stream), got, f, want, e)
	}
}

// checkRecoverable compares Recoverable with the wanted result.
func checkRecoverable(t *testing.T, l api.Layout, reels []int, want bool) {
	t.Helper()
	if got := Recoverable(l, reels); got != want {
		t.Fatalf("Recoverable(%v, %v) = %v", l, reels, got)
	}
}

// P16.1: Check

func TestCheckValid(t *testing.T) {
	for _, l := range layouts() {
		if e := Check(l); e != api.OK {
			t.Errorf("Check(%v) = %d", l, e)
		}
	}
}

func TestCheckInvalid(t *testing.T) {
	for _, l := range invalidLayouts() {
		if e := Check(l); e != api.ErrRange {
			t.Errorf("Check(%v) = %d", l, e)
		}
	}
}

func TestCheckAllSmallNumbers(t *testing.T) {
	for data := -20; data <= 20; data++ {
		for spare := -20; spare <= 20; spare++ {
			l := api.Layout{Data: data, Spare: spare}
			want := api.ErrRange
			if slices.Contains(layouts(), l) {
				want = api.OK
			}
			if e := Check(l); e != want {
				t.Errorf("Check(%v) = %d", l, e)
			}
		}
	}
}

// P16.2: Locate and Offset

func TestPositionExamples(t *testing.T) {
	two := api.Layout{Data: 2, Spare: 1}
	checkPair(t, two, 60, api.Position{Stripe: 1, Reel: 0, Offset: 4})
	checkPair(t, two, 0, api.Position{})
	checkPair(t, two, 27, api.Position{Offset: 27})
	checkPair(t, two, 28, api.Position{Reel: 1})
	checkPair(t, two, 55, api.Position{Reel: 1, Offset: 27})
	checkPair(t, two, 56, api.Position{Stripe: 1})
	checkPair(t, api.Layout{Data: 1}, 60, api.Position{Stripe: 2, Offset: 4})
	checkPair(t, api.Layout{Data: 8, Spare: 7}, 60, api.Position{Reel: 2, Offset: 4})
}

func TestFirstPositions(t *testing.T) {
	for _, l := range layouts() {
		walk(l.Data, 3000, func(offset int, p api.Position) { checkPair(t, l, offset, p) })
	}
}

// TestLastOffsets walks down to the greatest offset: what is beyond it has no position, and what has its position has no offset.
func TestLastOffsets(t *testing.T) {
	for _, l := range layouts() {
		size := l.Data * blockBytes
		last := lastOffset / size
		walk(l.Data, 2*size, func(offset int, p api.Position) {
			offset += (last - 1) * size
			p.Stripe += last - 1
			if offset <= lastOffset {
				checkPair(t, l, offset, p)
			} else {
				checkLocate(t, l, offset, api.Position{}, api.ErrRange)
				checkOffset(t, l, p, 0, api.ErrRange)
			}
		})
	}
}

func TestGreatestOffset(t *testing.T) {
	want := []api.Position{
		{Stripe: 76695844, Reel: 0, Offset: 15},
		{Stripe: 38347922, Reel: 0, Offset: 15},
		{Stripe: 25565281, Reel: 1, Offset: 15},
		{Stripe: 19173961, Reel: 0, Offset: 15},
		{Stripe: 15339168, Reel: 4, Offset: 15},
		{Stripe: 12782640, Reel: 4, Offset: 15},
		{Stripe: 10956549, Reel: 1, Offset: 15},
		{Stripe: 9586980, Reel: 4, Offset: 15},
	}
	for i, p := range want {
		l := api.Layout{Data: i + 1, Spare: i % 3}
		checkPair(t, l, lastOffset, p)
		p.Offset++
		checkOffset(t, l, p, 0, api.ErrRange)
	}
}

// TestMoreStripesThanAStreamHas shows that offsets are limited by their own bound only.
func TestMoreStripesThanAStreamHas(t *testing.T) {
	for _, l := range layouts() {
		size := l.Data * blockBytes
		for _, stripe := range []int{mostStripes - 1, mostStripes, mostStripes + 1, 1 << 20} {
			checkPair(t, l, stripe*size, api.Position{Stripe: stripe})
			checkPair(t, l, stripe*size+size-1, api.Position{Stripe: stripe, Reel: l.Data - 1, Offset: 27})
		}
	}
}

func TestLocateRefusesOffsets(t *testing.T) {
	for _, l := range layouts() {
		for _, offset := range []int{-1, -2, -28, -224, math.MinInt, math.MinInt + 1, lastOffset + 1, lastOffset + 2, 1 << 32, 1 << 62, math.MaxInt} {
			checkLocate(t, l, offset, api.Position{}, api.ErrRange)
		}
	}
}

func TestOffsetRefusesPositions(t *testing.T) {
	for _, l := range layouts() {
		for _, n := range []int{-1, -2, -28, math.MinInt, math.MinInt + 1, math.MaxInt, math.MaxInt - 1, 1 << 62, 1 << 40} {
			checkOffset(t, l, api.Position{Stripe: n}, 0, api.ErrRange)
			checkOffset(t, l, api.Position{Stripe: n, Reel: l.Data - 1, Offset: 27}, 0, api.ErrRange)
			checkOffset(t, l, api.Position{Reel: n}, 0, api.ErrRange)
			checkOffset(t, l, api.Position{Offset: n}, 0, api.ErrRange)
			checkOffset(t, l, api.Position{Stripe: n, Reel: n, Offset: n}, 0, api.ErrRange)
		}
		// A negative number is not made up for by another one.
		checkOffset(t, l, api.Position{Stripe: 1, Reel: -1}, 0, api.ErrRange)
		checkOffset(t, l, api.Position{Stripe: 1, Offset: -1}, 0, api.ErrRange)
		checkOffset(t, l, api.Position{Stripe: -1, Reel: l.Data - 1, Offset: 27}, 0, api.ErrRange)
		for _, offset := range []int{28, 29, 56, 255, 256} {
			checkOffset(t, l, api.Position{Offset: offset}, 0, api.ErrRange)
			checkOffset(t, l, api.Position{Stripe: 3, Offset: offset}, 0, api.ErrRange)
		}
	}
}

func TestOffsetRefusesSpareReels(t *testing.T) {
	for _, l := range layouts() {
		for reel := l.Data; reel < 20; reel++ {
			checkOffset(t, l, api.Position{Reel: reel}, 0, api.ErrRange)
			checkOffset(t, l, api.Position{Stripe: 5, Reel: reel, Offset: 9}, 0, api.ErrRange)
		}
	}
}

// TestOffsetOfWrappingStripes chooses stripes whose offset would be small again after an overflow of 32 or 64 bits.
func TestOffsetOfWrappingStripes(t *testing.T) {
	for _, l := range layouts() {
		size := uint64(l.Data * blockBytes)
		for _, stripe := range []uint64{1<<32/size + 1, 1<<33/size + 1, math.MaxUint64/size + 1, 1<<63/size + 1, 1 << 61, 1 << 60} {
			for reel := range l.Data {
				checkOffset(t, l, api.Position{Stripe: int(stripe), Reel: reel, Offset: 1}, 0, api.ErrRange)
			}
		}
	}
}

func TestPositionsOfInvalidLayouts(t *testing.T) {
	for _, l := range invalidLayouts() {
		for _, offset := range []int{0, 1, 60, lastOffset, -1, lastOffset + 1} {
			checkLocate(t, l, offset, api.Position{}, api.ErrRange)
		}
		for _, p := range []api.Position{{}, {Stripe: 1, Offset: 4}, {Reel: 1}, {Stripe: -1}} {
			checkOffset(t, l, p, 0, api.ErrRange)
		}
	}
}

// P16.3: Stripes

func TestStripesExamples(t *testing.T) {
	two := api.Layout{Data: 2, Spare: 1}
	if list, e := Stripes(two, strings.Repeat("x", 100)); len(list) != 2 || e != api.OK {
		t.Errorf("a stream of 100 bytes has %d stripes, %d", len(list), e)
	}
	zeros := strings.Repeat("\x00", 27)
	checkStripes(t, two, "\x01"+zeros+"\x02", [][]string{{"\x01" + zeros, "\x02" + zeros, "\x07" + zeros}}, api.OK)
	full := strings.Repeat("\x05", 28)
	checkStripes(t, api.Layout{Data: 1, Spare: 2}, full+"\xff", [][]string{{full, full, full}, {"\xff" + zeros, "\xff" + zeros, "\xff" + zeros}}, api.OK)
	checkStripes(t, api.Layout{Data: 1}, "a", [][]string{{"a" + zeros}}, api.OK)
}

func TestEmptyStream(t *testing.T) {
	for _, l := range layouts() {
		checkStripes(t, l, "", nil, api.OK)
	}
}

func TestStripesOfAllLengths(t *testing.T) {
	r := random()
	for _, l := range layouts() {
		size := l.Data * blockBytes
		for length := range 2*size + 2 {
			stream := randomStream(r, length)
			checkStripes(t, l, stream, otherStripes(t, l, stream), api.OK)
		}
		stream := randomStream(r, 20*size+r.IntN(size))
		checkStripes(t, l, stream, otherStripes(t, l, stream), api.OK)
	}
}

func TestZeroBytesOfAStream(t *testing.T) {
	for _, l := range layouts() {
		size := l.Data * blockBytes
		zero := slices.Repeat([]string{strings.Repeat("\x00", blockBytes)}, l.Data+l.Spare)
		// Zero bytes at the end of a stream are as good as others.
		checkStripes(t, l, "\x00", [][]string{zero}, api.OK)
		checkStripes(t, l, strings.Repeat("\x00", size), [][]string{zero}, api.OK)
		checkStripes(t, l, strings.Repeat("\x00", size+1), [][]string{zero, zero}, api.OK)
	}
}

func TestStripesLimit(t *testing.T) {
	for data := 1; data <= mostData; data++ {
		l := api.Layout{Data: data}
		size := data * blockBytes
		longest := strings.Repeat("x", mostStripes*size)
		for _, length := range []int{len(longest) - size + 1, len(longest) - 1, len(longest)} {
			list, e := Stripes(l, longest[:length])
			if len(list) != mostStripes || e != api.OK {
				t.Errorf("%d data reels, %d bytes: %d stripes, %d", data, length, len(list), e)
			}
		}
		if list, e := Stripes(l, longest[:len(longest)-size]); len(list) != mostStripes-1 || e != api.OK {
			t.Errorf("%d data reels, one stripe less: %d stripes, %d", data, len(list), e)
		}
		for spare := range mostSpare + 1 {
			checkTooLong(t, api.Layout{Data: data, Spare: spare}, longest+"x", api.ErrLimit)
		}
		checkTooLong(t, l, longest+longest, api.ErrLimit)
		checkTooLong(t, api.Layout{Data: data, Spare: mostSpare + 1}, longest+"x", api.ErrRange)
	}
}

// checkTooLong checks that Stripes returns an error, without printing the stream.
func checkTooLong(t *testing.T, l api.Layout, stream string, e api.Errno) {
	t.Helper()
	if list, f := Stripes(l, stream); len(list) != 0 || f != e {
		t.Errorf("Stripes(%v, %d bytes) returns %d stripes, %d, want %d", l, len(stream), len(list), f, e)
	}
}

func TestLongestStreamWithSpares(t *testing.T) {
	r := random()
	l := api.Layout{Data: 2, Spare: 1}
	stream := randomStream(r, mostStripes*l.Data*blockBytes-5)
	list, e := Stripes(l, stream)
	if len(list) != mostStripes || e != api.OK {
		t.Fatal(len(list), e)
	}
	for _, number := range []int{0, 1, 32767, 32768, mostStripes - 2, mostStripes - 1} {
		from := number * l.Data * blockBytes
		rest := stream[from:min(from+l.Data*blockBytes, len(stream))]
		if want := otherStripes(t, l, rest)[0]; !slices.Equal(list[number], want) {
			t.Errorf("stripe %d is %q, want %q", number, list[number], want)
		}
	}
}

func TestStripesOfInvalidLayouts(t *testing.T) {
	tooLong := strings.Repeat("x", mostStripes*mostData*blockBytes+1)
	for _, l := range invalidLayouts() {
		for _, stream := range []string{"", "a", tooLong[:100], tooLong} {
			checkTooLong(t, l, stream, api.ErrRange)
		}
	}
}

func TestStripesAreIndependent(t *testing.T) {
	l := api.Layout{Data: 3, Spare: 2}
	stream := randomStream(random(), 500)
	want := otherStripes(t, l, stream)
	list, _ := Stripes(l, stream)
	for i := range list {
		list[i] = append(list[i], "more")
		for k := range list[i] {
			list[i][k] = "other"
		}
		for _, later := range list[i+1:] {
			if slices.Contains(later, "other") || slices.Contains(later, "more") {
				t.Fatalf("stripe %d shares memory with a later one", i)
			}
		}
	}
	checkStripes(t, l, stream, want, api.OK)
}

// TestStripesEarlyEnd stops the iterator at each stripe: it must not go on.
func TestStripesEarlyEnd(t *testing.T) {
	l := api.Layout{Data: 2, Spare: 2}
	stream := randomStream(random(), 400)
	want := otherStripes(t, l, stream)
	for count := 1; count <= len(want); count++ {
		var got [][]string
		for stripe := range stripes(l, stream) {
			got = append(got, stripe)
			if len(got) == count {
				break
			}
		}
		if !slices.EqualFunc(got, want[:count], slices.Equal) {
			t.Errorf("the first %d stripes are %q", count, got)
		}
	}
}

// P16.4: Recoverable

func TestRecoverableExamples(t *testing.T) {
	two := api.Layout{Data: 2, Spare: 1}
	for _, reels := range [][]int{{0, 1}, {1, 0}, {0, 2}, {2, 1}, {0, 1, 2}, {0, 0, 2}, {-1, 1, 7, 2, 3}} {
		checkRecoverable(t, two, reels, true)
	}
	for _, reels := range [][]int{nil, {}, {0}, {2}, {1, 1}, {2, 2, 2}, {0, 3}, {-1, 0}, {3, 4, 5}, {-1, -2, -3}} {
		checkRecoverable(t, two, reels, false)
	}
	for _, l := range layouts() {
		checkRecoverable(t, l, nil, false)
		checkRecoverable(t, l, []int{}, false)
	}
}

func TestRecoverableEverySet(t *testing.T) {
	r := random()
	for _, l := range layouts() {
		for set := range 1 << (l.Data + l.Spare) {
			reels := members(set)
			want := len(reels) >= l.Data
			checkRecoverable(t, l, reels, want)
			// Neither repetition nor order nor other numbers matter.
			for range r.IntN(4) {
				if len(reels) > 0 {
					reels = append(reels, reels[r.IntN(len(reels))])
				}
				reels = append(reels, l.Data+l.Spare+r.IntN(5), -1-r.IntN(5))
			}
			r.Shuffle(len(reels), func(i, k int) { reels[i], reels[k] = reels[k], reels[i] })
			checkRecoverable(t, l, reels, want)
		}
	}
}

// members returns the numbers of the bits of a set.
func members(set int) []int {
	var list []int
	for n := range mostData + mostSpare {
		if set>>n&1 == 1 {
			list = append(list, n)
		}
	}
	return list
}

func TestRecoverableOtherNumbers(t *testing.T) {
	for _, l := range layouts() {
		reels := l.Data + l.Spare
		others := []int{-1, -2, -3, -4, -5, -6, -7, -8, -9, math.MinInt, math.MaxInt, 255, 256, 257, 1 << 32, 1<<32 + 1}
		for n := reels; n < reels+20; n++ {
			others = append(others, n)
		}
		checkRecoverable(t, l, others, false)
		for n := range l.Data {
			checkRecoverable(t, l, others, false)
			others = append(others, reels-1-n)
		}
		checkRecoverable(t, l, others, true)
	}
}

func TestRecoverableRepetition(t *testing.T) {
	for _, l := range layouts() {
		for reel := range l.Data + l.Spare {
			checkRecoverable(t, l, slices.Repeat([]int{reel}, 1000), l.Data == 1)
		}
	}
}

func TestRecoverableOfInvalidLayouts(t *testing.T) {
	var many []int
	for n := -20; n < 300; n++ {
		many = append(many, n)
	}
	for _, l := range invalidLayouts() {
		checkRecoverable(t, l, nil, false)
		checkRecoverable(t, l, []int{0}, false)
		checkRecoverable(t, l, many, false)
	}
}

// P16.5: the consequences

func TestInverse(t *testing.T) {
	r := random()
	for range 20000 {
		l := layouts()[r.IntN(mostData*(mostSpare+1))]
		offset := int(r.Uint32() >> (1 + r.IntN(31)))
		p, e := Locate(l, offset)
		if e != api.OK {
			t.Fatalf("Locate(%v, %d) = %d", l, offset, e)
		}
		checkOffset(t, l, p, offset, api.OK)
		p = api.Position{Stripe: r.IntN(lastOffset / (l.Data * blockBytes)), Reel: r.IntN(l.Data), Offset: r.IntN(blockBytes)}
		offset, e = Offset(l, p)
		if e != api.OK {
			t.Fatalf("Offset(%v, %v) = %d", l, p, e)
		}
		checkLocate(t, l, offset, p, api.OK)
	}
}

func TestEveryByteIsAtItsPosition(t *testing.T) {
	r := random()
	for _, l := range layouts() {
		stream := randomStream(r, 900+r.IntN(300))
		list, _ := Stripes(l, stream)
		for offset := range len(stream) {
			p, e := Locate(l, offset)
			if e != api.OK || list[p.Stripe][p.Reel][p.Offset] != stream[offset] {
				t.Fatalf("%v: byte %d is not at %v, %d", l, offset, p, e)
			}
		}
		// The offsets beyond the stream are those of the zero bytes in its last stripe.
		for offset := len(stream); offset < len(list)*l.Data*blockBytes; offset++ {
			p, _ := Locate(l, offset)
			if p.Stripe != len(list)-1 || list[p.Stripe][p.Reel][p.Offset] != 0 {
				t.Fatalf("%v: %v is not filled up", l, p)
			}
		}
	}
}

func TestRestoreFromAnyReels(t *testing.T) {
	r := random()
	for _, l := range layouts() {
		stream := randomStream(r, l.Data*blockBytes+1+r.IntN(l.Data*blockBytes))
		list, _ := Stripes(l, stream)
		for set := range 1 << (l.Data + l.Spare) {
			if reels := members(set); len(reels) == l.Data {
				checkRecoverable(t, l, reels, true)
				checkRestored(t, l, list, reels)
			}
		}
	}
}

// checkRestored checks that all data blocks are restored from the blocks of the given reels.
func checkRestored(t *testing.T, l api.Layout, list [][]string, reels []int) {
	t.Helper()
	for _, stripe := range list {
		var have []api.Share
		for _, reel := range reels {
			have = append(have, api.Share{Index: reel, Data: stripe[reel]})
		}
		blocks, e := erasure.Restore(have, l.Data)
		if e != api.OK || !slices.Equal(blocks, stripe[:l.Data]) {
			t.Fatalf("%v: the reels %v restore %q, %d, want %q", l, reels, blocks, e, stripe[:l.Data])
		}
	}
}
