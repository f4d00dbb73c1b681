package erasure

import (
	"math"
	"math/bits"
	"math/rand/v2"
	"slices"
	"strings"
	"testing"

	"stele/api"
)

// mostBlocks is the number of blocks of the largest stripe, as the document writes it.
const mostBlocks = 15

// A second computation: it finds the polynomial of every offset by elimination, with a product of its own.

// otherProduct returns the product of two elements as the remainder of a long division by x^8 + x^4 + x^3 + x^2 + 1.
func otherProduct(a, b byte) byte {
	product := 0
	for i := range 8 {
		if b>>i&1 == 1 {
			product ^= int(a) << i
		}
	}
	for i := 14; i >= 8; i-- {
		if product>>i&1 == 1 {
			product ^= 285 << (i - 8)
		}
	}
	return byte(product)
}

// products contains the products of all pairs of elements.
var products = func() [256][256]byte {
	var table [256][256]byte
	for a := range 256 {
		for b := range 256 {
			table[a][b] = otherProduct(byte(a), byte(b))
		}
	}
	return table
}()

// inverse returns the element whose product with a is 1.
func inverse(a byte) byte {
	return byte(slices.Index(products[a][:], 1))
}

// otherValue returns the value at x of a polynomial, with the constant term first, as the sum of its terms.
func otherValue(polynomial []byte, x int) byte {
	var sum byte
	power := byte(1)
	for _, c := range polynomial {
		sum ^= products[c][power]
		power = products[power][x]
	}
	return sum
}

// equations returns one row for each share: the powers of its index, and its byte at an offset.
func equations(have []api.Share, data, offset int) [][]byte {
	var rows [][]byte
	for _, share := range have {
		var row []byte
		power := byte(1)
		for range data {
			row = append(row, power)
			power = products[power][share.Index]
		}
		rows = append(rows, append(row, share.Data[offset]))
	}
	return rows
}

// solve returns the polynomial with the given number of coefficients that fulfils all equations, or an error.
func solve(rows [][]byte, data int) ([]byte, api.Errno) {
	for column := range data {
		pivot := -1
		for i := column; i < len(rows); i++ {
			if rows[i][column] != 0 {
				pivot = i
			}
		}
		if pivot < 0 {
			return nil, api.ErrLost
		}
		rows[column], rows[pivot] = rows[pivot], rows[column]
		factor := inverse(rows[column][column])
		for k := range rows[column] {
			rows[column][k] = products[factor][rows[column][k]]
		}
		for i := range rows {
			if c := rows[i][column]; i != column && c != 0 {
				for k := range rows[i] {
					rows[i][k] ^= products[c][rows[column][k]]
				}
			}
		}
	}
	var polynomial []byte
	for i, row := range rows {
		if i < data {
			polynomial = append(polynomial, row[data])
		} else if row[data] != 0 {
			return nil, api.ErrConflict
		}
	}
	return polynomial, api.OK
}

// otherError returns the first error of the arguments of Restore but for consistency.
func otherError(have []api.Share, data int) api.Errno {
	if data < 1 || data > mostBlocks {
		return api.ErrArgument
	}
	for _, share := range have {
		if share.Index < 0 || share.Index >= mostBlocks {
			return api.ErrRange
		}
	}
	indices := map[int]bool{}
	for _, share := range have {
		if len(share.Data) != len(have[0].Data) {
			return api.ErrArgument
		}
		indices[share.Index] = true
	}
	if len(indices) < data {
		return api.ErrLost
	}
	return api.OK
}

// otherStripe returns all 15 blocks of the stripe that contains the shares, or an error.
func otherStripe(have []api.Share, data int) ([]string, api.Errno) {
	if e := otherError(have, data); e != api.OK {
		return nil, e
	}
	stripe := make([]string, mostBlocks)
	for offset := range len(have[0].Data) {
		polynomial, e := solve(equations(have, data, offset), data)
		if e != api.OK {
			return nil, e
		}
		for index := range stripe {
			stripe[index] += string([]byte{otherValue(polynomial, index)})
		}
	}
	return stripe, api.OK
}

// Helpers.

// random returns the tests' source of random numbers.
func random() *rand.Rand {
	return rand.New(rand.NewPCG(15, 1))
}

// randomBlock returns a random block of the given length.
func randomBlock(r *rand.Rand, length int) string {
	b := make([]byte, length)
	for i := range b {
		b[i] = byte(r.Uint32())
	}
	return string(b)
}

// randomBlocks returns random blocks of the given length.
func randomBlocks(r *rand.Rand, count, length int) []string {
	list := make([]string, count)
	for i := range list {
		list[i] = randomBlock(r, length)
	}
	return list
}

// numbered returns the blocks as shares numbered from 0 on.
func numbered(stripe []string) []api.Share {
	var shares []api.Share
	for i, b := range stripe {
		shares = append(shares, api.Share{Index: i, Data: b})
	}
	return shares
}

// wholeStripe returns the data blocks followed by as many spare blocks as there can be.
func wholeStripe(t *testing.T, data []string) []string {
	t.Helper()
	spares, e := Encode(data, mostBlocks-len(data))
	if e != api.OK {
		t.Fatalf("Encode(%q) = %d", data, e)
	}
	return append(slices.Clone(data), spares...)
}

// changed returns a block with another byte at an offset.
func changed(block string, offset int, difference byte) string {
	b := []byte(block)
	b[offset] ^= difference
	return string(b)
}

// shuffled returns the shares in a random order.
func shuffled(r *rand.Rand, shares []api.Share) []api.Share {
	list := slices.Clone(shares)
	r.Shuffle(len(list), func(i, k int) { list[i], list[k] = list[k], list[i] })
	return list
}

// checkEncode compares Encode with the wanted result.
func checkEncode(t *testing.T, data []string, spare int, want []string, e api.Errno) {
	t.Helper()
	if got, f := Encode(data, spare); !slices.Equal(got, want) || f != e {
		t.Fatalf("Encode(%q, %d) = %q, %d, want %q, %d", data, spare, got, f, want, e)
	}
}

// checkRestore compares Restore with the wanted result.
func checkRestore(t *testing.T, have []api.Share, data int, want []string, e api.Errno) {
	t.Helper()
	if got, f := Restore(have, data); !slices.Equal(got, want) || f != e {
		t.Fatalf("Restore(%#v, %d) = %q, %d, want %q, %d", have, data, got, f, want, e)
	}
}

// checkBlock compares Block with the wanted result.
func checkBlock(t *testing.T, have []api.Share, data, index int, want string, e api.Errno) {
	t.Helper()
	if got, f := Block(have, data, index); got != want || f != e {
		t.Fatalf("Block(%#v, %d, %d) = %q, %d, want %q, %d", have, data, index, got, f, want, e)
	}
}

// checkShares compares Restore and Block, for every index, with the second computation, and returns its error.
func checkShares(t *testing.T, have []api.Share, data int) api.Errno {
	t.Helper()
	stripe, e := otherStripe(have, data)
	if e != api.OK {
		checkFailure(t, have, data, e)
		return e
	}
	checkRestore(t, have, data, stripe[:data], api.OK)
	for index := range mostBlocks {
		checkBlock(t, have, data, index, stripe[index], api.OK)
	}
	return e
}

// checkFailure checks that Restore, and Block for every index, return an error.
func checkFailure(t *testing.T, have []api.Share, data int, e api.Errno) {
	t.Helper()
	checkRestore(t, have, data, nil, e)
	for index := range mostBlocks {
		checkBlock(t, have, data, index, "", e)
	}
	for _, index := range []int{-1, mostBlocks, math.MinInt, math.MaxInt} {
		checkBlock(t, have, data, index, "", api.ErrRange)
	}
}

// P15.1: Encode

func TestExamples(t *testing.T) {
	for spare := range mostBlocks {
		checkEncode(t, []string{"abc"}, spare, slices.Repeat([]string{"abc"}, spare), api.OK)
	}
	checkEncode(t, []string{"\x01", "\x02"}, 1, []string{"\x07"}, api.OK)
	// The value of 1 + 3x at the elements 2 to 14: 3x is the exclusive or of x and the double of x.
	var spares []string
	for x := 2; x < mostBlocks; x++ {
		spares = append(spares, string([]byte{byte(1 ^ x ^ 2*x)}))
	}
	checkEncode(t, []string{"\x01", "\x02"}, 13, spares, api.OK)
}

func TestEncodeAllSizes(t *testing.T) {
	r := random()
	for data := 1; data <= mostBlocks; data++ {
		for spare := 0; data+spare <= mostBlocks; spare++ {
			for _, length := range []int{0, 1, 2, 28, 29} {
				blocks := randomBlocks(r, data, length)
				stripe, _ := otherStripe(numbered(blocks), data)
				checkEncode(t, blocks, spare, stripe[data:data+spare], api.OK)
			}
		}
	}
}

func TestEncodeAllBytes(t *testing.T) {
	var low, high strings.Builder
	for a := range 256 {
		for b := range 256 {
			low.WriteByte(byte(a))
			high.WriteByte(byte(b))
		}
	}
	blocks := []string{low.String(), high.String()}
	spares, e := Encode(blocks, 13)
	if e != api.OK || len(spares) != 13 {
		t.Fatal(len(spares), e)
	}
	for i, spare := range spares {
		// The line through two points.
		for offset := range len(spare) {
			a, b := blocks[0][offset], blocks[1][offset]
			if want := a ^ products[a^b][i+2]; spare[offset] != want {
				t.Fatalf("block %d of %d and %d is %d, want %d", i+2, a, b, spare[offset], want)
			}
		}
	}
}

func TestEncodeRefuses(t *testing.T) {
	one := []string{"a"}
	for _, spare := range []int{-1, -2, -15, math.MinInt, math.MinInt + 1, 15, 16, 256, math.MaxInt, math.MaxInt - 1} {
		checkEncode(t, one, spare, nil, api.ErrArgument)
		checkEncode(t, nil, spare, nil, api.ErrArgument)
		checkEncode(t, []string{"a", "bc"}, spare, nil, api.ErrArgument)
	}
	for spare := range 20 {
		checkEncode(t, nil, spare, nil, api.ErrArgument)
		checkEncode(t, []string{}, spare, nil, api.ErrArgument)
	}
	for data := 1; data <= 40; data++ {
		spares := max(mostBlocks+1-data, 0)
		for spare := spares; spare < spares+20; spare++ {
			checkEncode(t, slices.Repeat(one, data), spare, nil, api.ErrArgument)
		}
		for _, spare := range []int{-1, math.MinInt, math.MaxInt} {
			checkEncode(t, slices.Repeat(one, data), spare, nil, api.ErrArgument)
		}
	}
}

func TestEncodeDifferentLengths(t *testing.T) {
	r := random()
	for data := 2; data <= mostBlocks; data++ {
		for spare := 0; data+spare <= mostBlocks; spare++ {
			for i := range data {
				for _, length := range []int{0, 1, 4, 6, 100} {
					blocks := randomBlocks(r, data, 5)
					blocks[i] = randomBlock(r, length)
					checkEncode(t, blocks, spare, nil, api.ErrArgument)
				}
			}
		}
	}
	// The first and the last block have the same length, and so have all lengths together.
	checkEncode(t, []string{"a", "bc", "d"}, 2, nil, api.ErrArgument)
	checkEncode(t, []string{"aa", "b", "ccc"}, 2, nil, api.ErrArgument)
	checkEncode(t, []string{"", "b"}, 2, nil, api.ErrArgument)
	checkEncode(t, []string{"a", ""}, 2, nil, api.ErrArgument)
}

// P15.1: Restore and Block

func TestRestoreExamples(t *testing.T) {
	want := []string{"\x01", "\x02"}
	have := []api.Share{{Index: 2, Data: "\x07"}, {Index: 1, Data: "\x02"}}
	checkRestore(t, have, 2, want, api.OK)
	checkBlock(t, have, 2, 0, "\x01", api.OK)
	checkBlock(t, have, 2, 3, "\x04", api.OK)
	have = []api.Share{{Index: 14, Data: "any"}}
	checkRestore(t, have, 1, []string{"any"}, api.OK)
	for index := range mostBlocks {
		checkBlock(t, have, 1, index, "any", api.OK)
	}
}

func TestRandomShares(t *testing.T) {
	r := random()
	seen := map[api.Errno]int{}
	for range 6000 {
		data := 1 + r.IntN(mostBlocks)
		stripe, _ := otherStripe(numbered(randomBlocks(r, data, r.IntN(4))), data)
		shares := shuffled(r, numbered(stripe))[:r.IntN(mostBlocks+1)]
		for range r.IntN(4) {
			if len(shares) > 0 {
				shares = append(shares, shares[r.IntN(len(shares))])
			}
		}
		have := shuffled(r, shares)
		if len(have) > 0 {
			damage(r, &have[r.IntN(len(have))])
		}
		seen[checkShares(t, have, data+r.IntN(2)*(r.IntN(5)-2))]++
	}
	for _, e := range []api.Errno{api.OK, api.ErrArgument, api.ErrRange, api.ErrLost, api.ErrConflict} {
		if seen[e] < 100 {
			t.Errorf("error %d occurs %d times", e, seen[e])
		}
	}
}

// damage changes a share in most cases.
func damage(r *rand.Rand, share *api.Share) {
	switch r.IntN(12) {
	case 0:
		share.Index = mostBlocks + r.IntN(3)
	case 1:
		share.Index = -1 - r.IntN(3)
	case 2:
		share.Data += "x"
	case 3, 4:
		share.Index = r.IntN(mostBlocks)
	case 5, 6, 7:
		if share.Data != "" {
			share.Data = changed(share.Data, r.IntN(len(share.Data)), byte(1+r.IntN(255)))
		}
	}
}

func TestIndexRange(t *testing.T) {
	for index := -40; index < 40; index++ {
		have := []api.Share{{Index: index, Data: "ab"}}
		inside := index >= 0 && index <= 14
		want, e := []string{"ab"}, api.OK
		if !inside {
			want, e = nil, api.ErrRange
		}
		checkRestore(t, have, 1, want, e)
		checkRestore(t, append(have, api.Share{Index: 3, Data: "ab"}), 1, want, e)
		checkRestore(t, append([]api.Share{{Index: 3, Data: "ab"}}, have...), 1, want, e)
		if inside {
			checkBlock(t, []api.Share{{Index: 0, Data: "ab"}}, 1, index, "ab", api.OK)
		} else {
			checkBlock(t, []api.Share{{Index: 0, Data: "ab"}}, 1, index, "", api.ErrRange)
		}
	}
	for _, index := range []int{math.MinInt, math.MaxInt, 256, -256, 1 << 40} {
		checkFailure(t, []api.Share{{Index: index, Data: "ab"}}, 1, api.ErrRange)
	}
}

func TestDataRange(t *testing.T) {
	r := random()
	for data := 1; data <= mostBlocks; data++ {
		if e := checkShares(t, numbered(randomBlocks(r, data, 3)), data); e != api.OK {
			t.Errorf("%d data blocks: %d", data, e)
		}
	}
	all := numbered(slices.Repeat([]string{"ab"}, mostBlocks))
	for _, data := range []int{0, -1, -15, 16, 17, 255, 256, 257, math.MinInt, math.MaxInt} {
		checkFailure(t, all, data, api.ErrArgument)
		checkFailure(t, nil, data, api.ErrArgument)
	}
}

// TestErrorOrder gives each kind of share that leads to an error together with those of the later errors, in all orders.
func TestErrorOrder(t *testing.T) {
	r := random()
	good := api.Share{Index: 4, Data: "a"}
	outside := api.Share{Index: 15, Data: "a"}
	longer := api.Share{Index: 5, Data: "ab"}
	other := api.Share{Index: 4, Data: "b"}
	another := api.Share{Index: 6, Data: "c"}
	for range 50 {
		checkFailure(t, shuffled(r, []api.Share{good, outside, longer, other}), 0, api.ErrArgument)
		checkFailure(t, shuffled(r, []api.Share{good, outside, longer, other}), 16, api.ErrArgument)
		checkFailure(t, shuffled(r, []api.Share{good, outside, longer, other}), 1, api.ErrRange)
		checkFailure(t, shuffled(r, []api.Share{good, outside, longer, other}), 15, api.ErrRange)
		checkFailure(t, shuffled(r, []api.Share{good, longer, other}), 1, api.ErrArgument)
		checkFailure(t, shuffled(r, []api.Share{good, longer, other}), 3, api.ErrArgument)
		checkFailure(t, shuffled(r, []api.Share{good, other, good}), 2, api.ErrLost)
		checkFailure(t, shuffled(r, []api.Share{good, other, another}), 3, api.ErrLost)
		checkFailure(t, shuffled(r, []api.Share{good, other, another}), 2, api.ErrConflict)
		checkFailure(t, shuffled(r, []api.Share{good, other}), 1, api.ErrConflict)
		checkFailure(t, shuffled(r, []api.Share{good, another}), 1, api.ErrConflict)
	}
	checkFailure(t, nil, 1, api.ErrLost)
	checkFailure(t, []api.Share{}, 15, api.ErrLost)
}

func TestTooFewIndices(t *testing.T) {
	r := random()
	for data := 1; data <= mostBlocks; data++ {
		stripe := numbered(wholeStripe(t, randomBlocks(r, data, 2)))
		for count := range data {
			have := shuffled(r, stripe)[:count]
			checkFailure(t, have, data, api.ErrLost)
			// Repetition does not make up for a missing block.
			checkFailure(t, slices.Repeat(have, 20), data, api.ErrLost)
		}
	}
}

func TestEmptyBlocks(t *testing.T) {
	for data := 1; data <= mostBlocks; data++ {
		empty := make([]string, mostBlocks)
		checkEncode(t, empty[:data], mostBlocks-data, empty[data:], api.OK)
		have := numbered(empty)
		checkRestore(t, have[mostBlocks-data:], data, empty[:data], api.OK)
		checkFailure(t, have[mostBlocks-data+1:], data, api.ErrLost)
		for index := range mostBlocks {
			checkBlock(t, have, data, index, "", api.OK)
		}
	}
}

func TestLongBlocks(t *testing.T) {
	r := random()
	blocks := randomBlocks(r, 3, 20000)
	stripe := numbered(wholeStripe(t, blocks))
	have := []api.Share{stripe[14], stripe[7], stripe[9], stripe[0]}
	checkRestore(t, have, 3, blocks, api.OK)
	for _, offset := range []int{0, 255, 256, 9999, 19999} {
		for i := range have {
			wrong := slices.Clone(have)
			wrong[i].Data = changed(wrong[i].Data, offset, 1)
			if got, e := Restore(wrong, 3); got != nil || e != api.ErrConflict {
				t.Fatalf("byte %d of share %d: %d blocks, %d", offset, i, len(got), e)
			}
		}
	}
}

func TestManyShares(t *testing.T) {
	r := random()
	blocks := randomBlocks(r, 8, 28)
	stripe := wholeStripe(t, blocks)
	have := shuffled(r, slices.Repeat(numbered(stripe), 200))
	checkRestore(t, have, 8, blocks, api.OK)
	have[len(have)-1].Data = changed(have[len(have)-1].Data, 27, 128)
	checkRestore(t, have, 8, nil, api.ErrConflict)
}

func TestArgumentsStayAndResultsAreNew(t *testing.T) {
	r := random()
	blocks := randomBlocks(r, 5, 6)
	kept := slices.Clone(blocks)
	stripe := wholeStripe(t, blocks)
	first, _ := Encode(blocks, 10)
	for i := range first {
		first[i] = "other"
	}
	checkEncode(t, blocks, 10, stripe[5:], api.OK)
	if !slices.Equal(blocks, kept) {
		t.Error("Encode changes its argument")
	}
	shares := shuffled(r, numbered(stripe))
	given := slices.Clone(shares)
	restored, _ := Restore(shares, 5)
	for i := range restored {
		restored[i] = "other"
	}
	checkRestore(t, shares, 5, kept, api.OK)
	checkBlock(t, shares, 5, 14, stripe[14], api.OK)
	// A list with room behind its end is not written there either.
	checkRestore(t, shares[:4], 5, nil, api.ErrLost)
	checkRestore(t, shares[:5], 5, kept, api.OK)
	if !slices.Equal(shares, given) {
		t.Error("Restore or Block changes its argument")
	}
}

// P15.2: every choice of blocks restores the stripe

func TestEveryChoiceOfBlocks(t *testing.T) {
	r := random()
	var blocks [mostBlocks + 1][]string
	var stripes [mostBlocks + 1][]api.Share
	for data := 1; data <= mostBlocks; data++ {
		blocks[data] = randomBlocks(r, data, 2)
		stripes[data] = numbered(wholeStripe(t, blocks[data]))
	}
	for choice := range uint(1) << mostBlocks {
		data := bits.OnesCount(choice)
		var have []api.Share
		for index := range mostBlocks {
			if choice>>index&1 == 1 {
				have = append(have, stripes[data][index])
			}
		}
		if data > 0 {
			checkRestore(t, have, data, blocks[data], api.OK)
			index := r.IntN(mostBlocks)
			checkBlock(t, have, data, index, stripes[data][index].Data, api.OK)
		}
	}
}

func TestMoreBlocksThanNeeded(t *testing.T) {
	r := random()
	for data := 1; data <= mostBlocks; data++ {
		for spare := 0; data+spare <= mostBlocks; spare++ {
			blocks := randomBlocks(r, data, 28)
			spares, _ := Encode(blocks, spare)
			stripe := numbered(append(slices.Clone(blocks), spares...))
			for count := data; count <= len(stripe); count++ {
				have := shuffled(r, stripe)[:count]
				checkRestore(t, have, data, blocks, api.OK)
				have = append(have, have[r.IntN(count)], have[r.IntN(count)])
				checkRestore(t, shuffled(r, have), data, blocks, api.OK)
			}
		}
	}
}

func TestOrderDoesNotMatter(t *testing.T) {
	r := random()
	blocks := randomBlocks(r, 4, 3)
	stripe := wholeStripe(t, blocks)
	// All orders of the first four shares, and of five with one too many.
	for _, have := range [][]api.Share{numbered(stripe)[6:10], numbered(stripe)[3:8]} {
		permute(have, 0, func() { checkRestore(t, have, 4, blocks, api.OK) })
	}
}

// permute calls a function for every order of the shares from an index on.
func permute(shares []api.Share, from int, visit func()) {
	if from == len(shares) {
		visit()
		return
	}
	for i := from; i < len(shares); i++ {
		shares[from], shares[i] = shares[i], shares[from]
		permute(shares, from+1, visit)
		shares[from], shares[i] = shares[i], shares[from]
	}
}

// P15.3: every changed byte is detected

func TestEveryChangedByte(t *testing.T) {
	r := random()
	for data := 1; data < mostBlocks; data++ {
		stripe := numbered(wholeStripe(t, randomBlocks(r, data, 2)))
		have := shuffled(r, stripe)[:data+1]
		for i := range have {
			for offset := range 2 {
				for difference := 1; difference < 256; difference++ {
					wrong := slices.Clone(have)
					wrong[i].Data = changed(wrong[i].Data, offset, byte(difference))
					checkRestore(t, wrong, data, nil, api.ErrConflict)
				}
			}
		}
	}
}

func TestChangedByteAmongMoreShares(t *testing.T) {
	r := random()
	for data := 1; data < mostBlocks; data++ {
		stripe := numbered(wholeStripe(t, randomBlocks(r, data, 28)))
		for count := data + 1; count <= mostBlocks; count++ {
			for i := range count {
				wrong := shuffled(r, stripe)[:count]
				wrong[i].Data = changed(wrong[i].Data, r.IntN(28), byte(1+r.IntN(255)))
				checkRestore(t, wrong, data, nil, api.ErrConflict)
				checkBlock(t, wrong, data, r.IntN(mostBlocks), "", api.ErrConflict)
			}
		}
	}
}

func TestChangedCopy(t *testing.T) {
	r := random()
	for data := 1; data <= mostBlocks; data++ {
		stripe := numbered(wholeStripe(t, randomBlocks(r, data, 3)))
		have := shuffled(r, stripe)[:data]
		for i := range data {
			for _, at := range []int{0, i, data} {
				copied := have[i]
				copied.Data = changed(copied.Data, r.IntN(3), byte(1+r.IntN(255)))
				checkRestore(t, slices.Insert(slices.Clone(have), at, copied), data, nil, api.ErrConflict)
			}
		}
	}
}

func TestChangedByteWithoutMoreShares(t *testing.T) {
	r := random()
	for data := 1; data <= mostBlocks; data++ {
		stripe := numbered(wholeStripe(t, randomBlocks(r, data, 3)))
		have := shuffled(r, stripe)[:data]
		have[0].Data = changed(have[0].Data, 1, 77)
		// As many shares as data blocks are the blocks of some stripe, whatever they contain.
		if e := checkShares(t, have, data); e != api.OK {
			t.Errorf("%d data blocks: %d", data, e)
		}
	}
}

// TestSwappedShares changes whole blocks: what is not a changed byte may be consistent by chance.
func TestSwappedShares(t *testing.T) {
	r := random()
	seen := map[api.Errno]int{}
	for data := 2; data < mostBlocks; data++ {
		stripe := numbered(wholeStripe(t, randomBlocks(r, data, 8)))
		for range 20 {
			have := shuffled(r, stripe)[:data+1]
			have[0].Index, have[data].Index = have[data].Index, have[0].Index
			seen[checkShares(t, have, data)]++
		}
	}
	if seen[api.OK] == 0 || seen[api.ErrConflict] == 0 {
		t.Error("the swapped shares lead to", seen)
	}
}

// P15.4: the exclusive or of two stripes is a stripe

// sum returns the exclusive or of the blocks of two lists.
func sum(a, b []string) []string {
	list := make([]string, len(a))
	for i := range a {
		block := make([]byte, len(a[i]))
		for offset := range block {
			block[offset] = a[i][offset] ^ b[i][offset]
		}
		list[i] = string(block)
	}
	return list
}

func TestSumOfStripes(t *testing.T) {
	r := random()
	for data := 1; data <= mostBlocks; data++ {
		for range 20 {
			a, b := randomBlocks(r, data, 28), randomBlocks(r, data, 28)
			both := sum(wholeStripe(t, a), wholeStripe(t, b))
			if !slices.Equal(both, wholeStripe(t, sum(a, b))) {
				t.Fatalf("the sum of the stripes of %q and %q is no stripe", a, b)
			}
			checkRestore(t, shuffled(r, numbered(both)), data, sum(a, b), api.OK)
		}
	}
}

func TestSumWithItselfIsZero(t *testing.T) {
	r := random()
	for data := 1; data <= mostBlocks; data++ {
		zero := slices.Repeat([]string{strings.Repeat("\x00", 28)}, mostBlocks)
		if !slices.Equal(wholeStripe(t, zero[:data]), zero) {
			t.Errorf("%d zero blocks have spare blocks that are not zero", data)
		}
		stripe := wholeStripe(t, randomBlocks(r, data, 28))
		checkRestore(t, numbered(sum(stripe, stripe)), data, zero[:data], api.OK)
	}
}
