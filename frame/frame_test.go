package frame

import (
	"encoding/binary"
	"math"
	"math/bits"
	"math/rand/v2"
	"strconv"
	"strings"
	"testing"

	"stele/api"
	"stele/cells"
	"stele/convcode"
	"stele/interleave"
	"stele/rsdecode"
	"stele/viterbi"
)

// The sizes as the chapter writes them.
const (
	messageBytes = 44
	wordBytes    = 52
	wordBits     = 416
	bodyCells    = 836
	markCells    = 16
	frameCells   = 852
)

const writtenMark = "1111100110101000"

// A second encoder, which follows the definitions of layers 3, 7, 9 and 11 directly.

// otherChecksum divides by the polynomial bit by bit.
func otherChecksum(s string) string {
	register := uint32(0xFFFFFFFF)
	for _, b := range []byte(s) {
		for i := range 8 {
			out := register>>31 ^ uint32(b)>>(7-i)&1
			register <<= 1
			if out == 1 {
				register ^= 0x04C11DB7
			}
		}
	}
	return string(binary.BigEndian.AppendUint32(nil, register))
}

// checkedPart returns the bytes of a message that its checksum covers; only the lowest bits of its numbers count.
func checkedPart(f api.Frame) string {
	b := []byte{byte(f.Kind), byte(f.Reel)}
	b = binary.BigEndian.AppendUint16(b, uint16(f.Session))
	b = binary.BigEndian.AppendUint16(b, uint16(f.Index))
	b = append(b, byte(f.Length), byte(f.Layout.Data<<4|f.Layout.Spare))
	b = binary.BigEndian.AppendUint32(b, f.Archive)
	return string(b) + f.Payload
}

func otherMessage(f api.Frame) string {
	return withChecksum(checkedPart(f))
}

func withChecksum(checked string) string {
	return checked + otherChecksum(checked)
}

// product multiplies in GF(256) as polynomials, reduced by 285.
func product(a, b int) int {
	p := 0
	for i := range 8 {
		if b>>i&1 == 1 {
			p ^= a << i
		}
	}
	for i := 14; i >= 8; i-- {
		if p>>i&1 == 1 {
			p ^= 285 << (i - 8)
		}
	}
	return p
}

// wordOf appends what remains of a message, eight zeros behind it, after the division by the product of x - 2^i for i from 0 to 7.
func wordOf(message string) string {
	generator := []int{1}
	root := 1
	for range 8 {
		// From the highest degree downwards: the product with x, and with the root one place behind.
		next := append(append([]int{}, generator...), 0)
		for i, g := range generator {
			next[i+1] ^= product(g, root)
		}
		generator = next
		root = product(root, 2)
	}
	rest := make([]int, len(message)+8)
	for i := range len(message) {
		rest[i] = int(message[i])
	}
	for i := range len(message) {
		factor := rest[i]
		for j, g := range generator {
			rest[i+j] ^= product(factor, g)
		}
	}
	word := []byte(message)
	for _, r := range rest[len(message):] {
		word = append(word, byte(r))
	}
	return string(word)
}

// codedBits returns the cells of the inner code: parities of the last three bits that the generators 7 and 5 (octal) select.
func codedBits(b string) string {
	var coded []byte
	var last uint
	for _, c := range []byte(b + "00") {
		last = last<<1 | uint(c-'0')
		for _, generator := range []uint{0o7, 0o5} {
			coded = append(coded, '0'+byte(bits.OnesCount(last&generator)%2))
		}
	}
	return string(coded)
}

func bitsOf(word string) string {
	var b strings.Builder
	for _, x := range []byte(word) {
		digits := strconv.FormatInt(int64(x), 2)
		b.WriteString(strings.Repeat("0", 8-len(digits)) + digits)
	}
	return b.String()
}

// interleaved takes every eighth cell, from each of the first eight on.
func interleaved(coded string) string {
	var b strings.Builder
	for r := range 8 {
		for i := r; i < len(coded); i += 8 {
			b.WriteByte(coded[i])
		}
	}
	return b.String()
}

// bodyOf returns the cells that follow the mark for a word, which need not be a code word.
func bodyOf(word string) string {
	return interleaved(codedBits(bitsOf(word)))
}

func otherEncode(f api.Frame) string {
	return writtenMark + bodyOf(wordOf(otherMessage(f)))
}

// plainPositions returns the position before interleaving of every cell that follows the mark.
func plainPositions() []int {
	var l []int
	for r := range 8 {
		for i := r; i < bodyCells; i += 8 {
			l = append(l, i)
		}
	}
	return l
}

// result is what Decode returns.
type result struct {
	f api.Frame
	q api.Quality
	e api.Errno
}

// otherDecode follows P13.4 step by step for cells that are not too many.
func otherDecode(t *testing.T, c string) result {
	t.Helper()
	body := c + strings.Repeat("?", bodyCells-len(c))
	coded, e := interleave.Deinterleave(body, 8)
	if e != api.OK {
		t.Fatalf("Deinterleave of %q: error %d", body, e)
	}
	q := api.Quality{Unreadable: strings.Count(body, "?")}
	b, e := convcode.Extract(coded)
	if e != api.OK {
		b, q.Distance, _, e = viterbi.Decode(coded)
	}
	if e != api.OK || len(b) != wordBits {
		t.Fatalf("inner decoding of %q: %d bits, error %d", coded, len(b), e)
	}
	received, _, e := cells.ToBytes(b)
	if e != api.OK || len(received) != wordBytes {
		t.Fatalf("%d bytes of %q, error %d", len(received), b, e)
	}
	word, n, e := rsdecode.Decode(received, 8, nil)
	if e != api.OK {
		return result{e: e}
	}
	q.Corrected = n
	f, e := Unmarshal(word[:messageBytes])
	if e != api.OK {
		return result{e: e}
	}
	return result{f: f, q: q}
}

// Frames.

func zeros(n int) string {
	return strings.Repeat("\x00", n)
}

// padded returns s as a payload.
func padded(s string) string {
	return s + zeros(28-len(s))
}

// example returns the frame of the chapter's example.
func example() api.Frame {
	return api.Frame{Kind: 66, Session: 1, Layout: api.Layout{Data: 1}, Payload: zeros(28)}
}

// valid returns a frame whose fields are all different and not zero.
func valid() api.Frame {
	return api.Frame{Kind: 68, Reel: 5, Session: 200, Index: 0xABCD, Length: 9, Layout: api.Layout{Data: 4, Spare: 3}, Archive: 0xFEDCBA98, Payload: padded("stele\xff\x80 x")}
}

func random() *rand.Rand {
	return rand.New(rand.NewPCG(13, 852))
}

func randomString(r *rand.Rand, length int) string {
	s := make([]byte, length)
	for i := range s {
		s[i] = byte(r.Uint32())
	}
	return string(s)
}

func randomFrame(r *rand.Rand) api.Frame {
	l := api.Layout{Data: 1 + r.IntN(8), Spare: r.IntN(8)}
	length := r.IntN(29)
	return api.Frame{
		Kind: 66 + 2*r.IntN(2), Reel: r.IntN(l.Data + l.Spare), Session: 1 + r.IntN(255), Index: r.IntN(65536), Length: length,
		Layout: l, Archive: r.Uint32(), Payload: padded(randomString(r, length)),
	}
}

// validFrames returns frames at all limits, and others.
func validFrames() []api.Frame {
	l := []api.Frame{example(), valid()}
	for _, kind := range []int{66, 68} {
		for _, session := range []int{1, 2, 128, 254, 255} {
			for _, index := range []int{0, 1, 255, 256, 32768, 65534, 65535} {
				f := valid()
				f.Kind, f.Session, f.Index = kind, session, index
				l = append(l, f)
			}
		}
	}
	for data := 1; data <= 8; data++ {
		for spare := range 8 {
			for reel := range data + spare {
				f := valid()
				f.Layout, f.Reel = api.Layout{Data: data, Spare: spare}, reel
				l = append(l, f)
			}
		}
	}
	for length := range 29 {
		for _, payload := range []string{strings.Repeat("\xff", length), strings.Repeat("\x01", length), zeros(length)} {
			f := valid()
			f.Length, f.Payload = length, padded(payload)
			l = append(l, f)
		}
	}
	for _, archive := range []uint32{0, 1, 0xFF, 0x100, 1 << 31, math.MaxUint32} {
		f := valid()
		f.Archive = archive
		l = append(l, f)
	}
	r := random()
	for range 300 {
		l = append(l, randomFrame(r))
	}
	return l
}

// invalid is a frame with the error that it has.
type invalid struct {
	f api.Frame
	e api.Errno
}

var huge = []int{math.MinInt, math.MinInt + 1, math.MinInt32, -65536, -256, -1, 65536, 65536 + 66, math.MaxInt32, 1 << 32, 1<<32 + 1, 1<<62 + 66, math.MaxInt - 1, math.MaxInt}

// invalidFrames returns frames with one invalid field.
func invalidFrames() []invalid {
	var l []invalid
	add := func(e api.Errno, change func(f *api.Frame, n int), numbers ...int) {
		for _, n := range append(numbers, huge...) {
			f := valid()
			change(&f, n)
			l = append(l, invalid{f, e})
		}
	}
	add(api.ErrKind, func(f *api.Frame, n int) { f.Kind = n }, 0, 1, 6, 64, 65, 67, 69, 70, 194, 66+256, 68+256, -66, -68)
	add(api.ErrRange, func(f *api.Frame, n int) { f.Layout.Data = n }, 0, 9, 10, 15, 16, 20, 255, 260)
	add(api.ErrRange, func(f *api.Frame, n int) { f.Layout.Spare = n }, 8, 9, 15, 16, 19, 255, 259)
	add(api.ErrRange, func(f *api.Frame, n int) { f.Reel = n }, 7, 8, 15, 16, 255, 256, 261)
	add(api.ErrRange, func(f *api.Frame, n int) { f.Session = n }, 0, 256, 257, 456, 65535)
	add(api.ErrRange, func(f *api.Frame, n int) { f.Index = n }, 65537)
	add(api.ErrRange, func(f *api.Frame, n int) { f.Length = n }, 29, 30, 44, 255, 256, 265)
	// The sum of these layouts overflows.
	for _, layout := range []api.Layout{{Data: math.MaxInt, Spare: 1}, {Data: math.MaxInt, Spare: math.MaxInt}, {Data: 8, Spare: math.MaxInt}, {Data: math.MinInt, Spare: math.MinInt}, {Data: -1, Spare: 7}, {Data: 9, Spare: -1}, {}} {
		for _, reel := range []int{0, 5, -1, math.MaxInt} {
			f := valid()
			f.Layout, f.Reel = layout, reel
			l = append(l, invalid{f, api.ErrRange})
		}
	}
	return append(l, invalidPayloads()...)
}

// invalidPayloads returns frames in which only the payload is invalid.
func invalidPayloads() []invalid {
	var l []invalid
	for length := range 29 {
		f := valid()
		f.Length = length
		for bytes := range 60 {
			if bytes != 28 {
				f.Payload = zeros(bytes)
				l = append(l, invalid{f, api.ErrArgument})
			}
		}
		for i := length; i < 28; i++ {
			for _, b := range []string{"\x01", "\x80", "\xff", "0", " "} {
				f.Payload = zeros(i) + b + zeros(27-i)
				l = append(l, invalid{f, api.ErrArgument})
			}
		}
	}
	f := valid()
	for _, s := range []string{"", f.Payload[:27], f.Payload + "\x00", f.Payload[:9], "x" + f.Payload, strings.Repeat("x", 1000000)} {
		f.Payload = s
		l = append(l, invalid{f, api.ErrArgument})
	}
	return l
}

// Damages.

// changed returns c with a damage of the cells at the indices.
func changed(c string, damage func(cell byte) byte, indices ...int) string {
	b := []byte(c)
	for _, i := range indices {
		b[i] = damage(b[i])
	}
	return string(b)
}

// invert exchanges 0 and 1, and leaves a cell that cannot be read as it is.
func invert(cell byte) byte { return cells.Invert(string([]byte{cell}))[0] }

func blank(byte) byte { return '?' }

// either returns a damage that inverts or blanks at random.
func either(r *rand.Rand) func(cell byte) byte {
	return func(cell byte) byte {
		if r.IntN(2) == 0 {
			return invert(cell)
		}
		return blank(cell)
	}
}

// changedBefore returns the cells after a mark, of which those at the given positions before interleaving are damaged.
func changedBefore(body string, damage func(cell byte) byte, positions ...int) string {
	isChanged := map[int]bool{}
	for _, p := range positions {
		isChanged[p] = true
	}
	b := []byte(body)
	for i, p := range plainPositions() {
		if isChanged[p] {
			b[i] = damage(b[i])
		}
	}
	return string(b)
}

// changedBytes returns s with n bytes changed.
func changedBytes(r *rand.Rand, s string, n int) string {
	b := []byte(s)
	for _, i := range r.Perm(len(s))[:n] {
		b[i] ^= byte(1 + r.IntN(255))
	}
	return string(b)
}

func bodyOfFrame(t *testing.T, f api.Frame) string {
	t.Helper()
	c, e := Encode(f)
	if e != api.OK || len(c) != frameCells {
		t.Fatalf("Encode(%v): %d cells, error %d", f, len(c), e)
	}
	return c[markCells:]
}

func checkDecode(t *testing.T, c string, want result) {
	t.Helper()
	if f, q, e := Decode(c); f != want.f || q != want.q || e != want.e {
		t.Errorf("Decode of %d cells %.900q = %v, %v, %d, want %v", len(c), c, f, q, e, want)
	}
}

// checkFrame checks that cells are decoded to a frame, with any quality.
func checkFrame(t *testing.T, c string, want api.Frame) api.Quality {
	t.Helper()
	f, q, e := Decode(c)
	if f != want || e != api.OK {
		t.Errorf("Decode of %d cells %q = %v, %v, %d, want %v", len(c), c, f, q, e, want)
	}
	return q
}

// P13.1: Check.

func TestCheckOfValidFrames(t *testing.T) {
	for _, f := range validFrames() {
		if e := Check(f); e != api.OK {
			t.Errorf("Check(%v) = %d", f, e)
		}
	}
}

func TestCheckOfInvalidFrames(t *testing.T) {
	for _, c := range invalidFrames() {
		if e := Check(c.f); e != c.e {
			t.Errorf("Check(%.500v) = %d, want %d", c.f, e, c.e)
		}
	}
	if e := Check(api.Frame{}); e != api.ErrKind {
		t.Errorf("Check of the zero frame = %d", e)
	}
}

func TestEveryKind(t *testing.T) {
	for kind := -1000; kind <= 1000; kind++ {
		f := valid()
		f.Kind = kind
		want := api.ErrKind
		if kind == 66 || kind == 68 {
			want = api.OK
		}
		if e := Check(f); e != want {
			t.Errorf("Check of the kind %d = %d", kind, e)
		}
	}
}

func TestEveryLayoutAndReel(t *testing.T) {
	for data := -2; data <= 18; data++ {
		for spare := -2; spare <= 18; spare++ {
			for reel := -2; reel <= 40; reel++ {
				f := valid()
				f.Layout, f.Reel = api.Layout{Data: data, Spare: spare}, reel
				want := api.ErrRange
				if data >= 1 && data <= 8 && spare >= 0 && spare <= 7 && reel >= 0 && reel < data+spare {
					want = api.OK
				}
				if e := Check(f); e != want {
					t.Errorf("Check of %v, reel %d = %d, want %d", f.Layout, reel, e, want)
				}
			}
		}
	}
}

func TestTheFirstErrorIsReported(t *testing.T) {
	faults := []struct {
		e     api.Errno
		spoil func(f *api.Frame)
	}{
		{api.ErrKind, func(f *api.Frame) { f.Kind = 67 }},
		{api.ErrRange, func(f *api.Frame) { f.Layout.Data = 0 }},
		{api.ErrRange, func(f *api.Frame) { f.Layout.Spare = 8 }},
		{api.ErrRange, func(f *api.Frame) { f.Reel = -1 }},
		{api.ErrRange, func(f *api.Frame) { f.Session = 256 }},
		{api.ErrRange, func(f *api.Frame) { f.Index = -1 }},
		{api.ErrRange, func(f *api.Frame) { f.Length = 29 }},
		{api.ErrArgument, func(f *api.Frame) { f.Payload = "x" }},
		{api.ErrArgument, func(f *api.Frame) { f.Payload += "x" }},
	}
	for set := range 1 << len(faults) {
		f, want := valid(), api.OK
		for i, fault := range faults {
			if set>>i&1 == 1 {
				fault.spoil(&f)
				if want == api.OK {
					want = fault.e
				}
			}
		}
		if e := Check(f); e != want {
			t.Errorf("Check(%v) = %d, want %d", f, e, want)
		}
	}
}

// P13.2: Marshal and Unmarshal.

func TestTheMessageOfTheExample(t *testing.T) {
	want := "\x42\x00\x00\x01\x00\x00\x00\x10" + zeros(4) + zeros(28)
	want += otherChecksum(want)
	if b, e := Marshal(example()); b != want || e != api.OK {
		t.Errorf("%q, %d, want %q", b, e, want)
	}
}

func TestTheBytesOfAMessage(t *testing.T) {
	want := "\x44\x05\x00\xc8\xab\xcd\x09\x43\xfe\xdc\xba\x98stele\xff\x80 x" + zeros(19)
	want += otherChecksum(want)
	if b, e := Marshal(valid()); b != want || e != api.OK {
		t.Errorf("%q, %d, want %q", b, e, want)
	}
	if otherChecksum("123456789") != "\x03\x76\xe6\xe7" {
		t.Errorf("the checksum of the tests is wrong: %q", otherChecksum("123456789"))
	}
}

func TestMarshalOfValidFrames(t *testing.T) {
	for _, f := range validFrames() {
		if b, e := Marshal(f); b != otherMessage(f) || e != api.OK {
			t.Errorf("Marshal(%v) = %q, %d, want %q", f, b, e, otherMessage(f))
		}
	}
}

func TestMarshalOfInvalidFrames(t *testing.T) {
	for _, c := range append(invalidFrames(), invalid{api.Frame{}, api.ErrKind}) {
		if b, e := Marshal(c.f); b != "" || e != c.e {
			t.Errorf("Marshal(%.500v) = %q, %d, want error %d", c.f, b, e, c.e)
		}
	}
}

func checkUnmarshal(t *testing.T, b string, want api.Frame) {
	t.Helper()
	if f, e := Unmarshal(b); f != want || e != api.OK {
		t.Errorf("Unmarshal(%q) = %v, %d, want %v", b, f, e, want)
	}
}

func checkNotUnmarshaled(t *testing.T, b string, want api.Errno) {
	t.Helper()
	if f, e := Unmarshal(b); f != (api.Frame{}) || e != want {
		t.Errorf("Unmarshal(%.100q) = %v, %d, want error %d", b, f, e, want)
	}
}

func TestUnmarshalOfMessages(t *testing.T) {
	for _, f := range validFrames() {
		checkUnmarshal(t, otherMessage(f), f)
	}
}

func TestAMessageHas44Bytes(t *testing.T) {
	m := otherMessage(valid())
	for length := range 100 {
		if length == messageBytes {
			continue
		}
		checkNotUnmarshaled(t, zeros(length), api.ErrShort)
		checkNotUnmarshaled(t, (m + m + m)[:length], api.ErrShort)
		// Neither a right checksum nor a wrong kind counts.
		if length > 4 {
			checkNotUnmarshaled(t, withChecksum(zeros(length-4)), api.ErrShort)
			checkNotUnmarshaled(t, withChecksum((m + m + m)[:length-4]), api.ErrShort)
		}
	}
	checkNotUnmarshaled(t, strings.Repeat(m, 10000), api.ErrShort)
}

func TestEveryChangedBitOfAMessage(t *testing.T) {
	for _, f := range []api.Frame{example(), valid()} {
		m := otherMessage(f)
		for i := range messageBytes {
			for bit := range 8 {
				b := []byte(m)
				b[i] ^= 1 << bit
				checkNotUnmarshaled(t, string(b), api.ErrChecksum)
			}
		}
	}
	checkNotUnmarshaled(t, zeros(44), api.ErrChecksum)
	checkNotUnmarshaled(t, strings.Repeat("\xff", 44), api.ErrChecksum)
}

// otherFields takes a message apart.
func otherFields(checked string) api.Frame {
	b := []byte(checked)
	return api.Frame{
		Kind: int(b[0]), Reel: int(b[1]), Session: int(binary.BigEndian.Uint16(b[2:])), Index: int(binary.BigEndian.Uint16(b[4:])), Length: int(b[6]),
		Layout: api.Layout{Data: int(b[7] >> 4), Spare: int(b[7] & 15)}, Archive: binary.BigEndian.Uint32(b[8:]), Payload: checked[12:],
	}
}

// checkByFields checks Unmarshal of bytes with a right checksum.
func checkByFields(t *testing.T, checked string) {
	t.Helper()
	f := otherFields(checked)
	if e := Check(f); e != api.OK {
		checkNotUnmarshaled(t, withChecksum(checked), e)
	} else {
		checkUnmarshal(t, withChecksum(checked), f)
	}
}

func TestMessagesOfOtherFrames(t *testing.T) {
	for _, f := range []api.Frame{example(), valid()} {
		checked := checkedPart(f)
		for i := range len(checked) {
			for b := range 256 {
				checkByFields(t, checked[:i]+string([]byte{byte(b)})+checked[i+1:])
			}
		}
	}
	r := random()
	for range 20000 {
		checkByFields(t, changedBytes(r, checkedPart(randomFrame(r)), 1+r.IntN(4)))
	}
}

func TestMessagesOfInvalidFrames(t *testing.T) {
	for _, c := range []struct {
		at   int
		with string
		e    api.Errno
	}{
		{0, "\x43", api.ErrKind}, {0, "\x00", api.ErrKind}, {0, "\x43\xff\xff\xff", api.ErrKind},
		{1, "\x07", api.ErrRange}, {1, "\xff", api.ErrRange}, {2, "\x01\x00", api.ErrRange}, {2, "\x00\x00", api.ErrRange}, {2, "\x01\xc8", api.ErrRange}, {2, "\xff\xff", api.ErrRange},
		{6, "\x1d", api.ErrRange}, {6, "\xff", api.ErrRange}, {7, "\x03", api.ErrRange}, {7, "\x48", api.ErrRange}, {7, "\x93", api.ErrRange}, {7, "\xff", api.ErrRange},
		{6, "\x08", api.ErrArgument}, {6, "\x00", api.ErrArgument}, {21, "\x01", api.ErrArgument}, {39, "\x80", api.ErrArgument},
	} {
		checked := checkedPart(valid())
		checked = checked[:c.at] + c.with + checked[c.at+len(c.with):]
		checkNotUnmarshaled(t, withChecksum(checked), c.e)
		// An invalid frame without a right checksum is not even considered.
		checkNotUnmarshaled(t, checked+"\x00\x00\x00\x00", api.ErrChecksum)
	}
}

// P13.3: Encode.

func TestEncodeOfValidFrames(t *testing.T) {
	for _, f := range validFrames() {
		c, e := Encode(f)
		if c != otherEncode(f) || e != api.OK || len(c) != frameCells || cells.Check(c) != api.OK || cells.Unreadable(c) != 0 {
			t.Errorf("Encode(%v) = %q, %d", f, c, e)
		}
	}
}

func TestEncodeOfTheExample(t *testing.T) {
	c, e := Encode(example())
	if e != api.OK || len(c) != frameCells || !strings.HasPrefix(c, writtenMark) {
		t.Fatalf("%q, %d", c, e)
	}
	coded, e := interleave.Deinterleave(c[markCells:], 8)
	if e != api.OK {
		t.Fatal(e)
	}
	b, e := convcode.Extract(coded)
	if e != api.OK {
		t.Fatal(e)
	}
	word, _, e := cells.ToBytes(b)
	if e != api.OK || len(word) != wordBytes || word != wordOf(otherMessage(example())) {
		t.Errorf("%q, %d", word, e)
	}
}

func TestEncodeOfInvalidFrames(t *testing.T) {
	for _, c := range append(invalidFrames(), invalid{api.Frame{}, api.ErrKind}) {
		if s, e := Encode(c.f); s != "" || e != c.e {
			t.Errorf("Encode(%.500v) = %q, %d, want error %d", c.f, s, e, c.e)
		}
	}
}

// P13.4: Decode.

func TestDecodeOfUndamagedFrames(t *testing.T) {
	for _, f := range validFrames() {
		checkDecode(t, otherEncode(f)[markCells:], result{f: f})
	}
}

func TestDecodeOfInvalidCells(t *testing.T) {
	body := bodyOfFrame(t, valid())
	for _, c := range []struct {
		c string
		e api.Errno
	}{
		{"2", api.ErrSyntax}, {"\x00", api.ErrSyntax}, {"\x01", api.ErrSyntax}, {"\xff", api.ErrSyntax}, {" ", api.ErrSyntax}, {"é", api.ErrSyntax}, {body[:835] + "x", api.ErrSyntax}, {"x" + body[1:], api.ErrSyntax},
		{body[:400] + "\xb0" + body[401:], api.ErrSyntax}, {body + "x", api.ErrSyntax}, {strings.Repeat("x", 1000000), api.ErrSyntax}, {strings.Repeat("0", 1000000) + "x", api.ErrSyntax},
		{body + "0", api.ErrLimit}, {body + "1", api.ErrLimit}, {body + "?", api.ErrLimit}, {writtenMark + body, api.ErrLimit}, {body + body, api.ErrLimit}, {strings.Repeat("?", 837), api.ErrLimit}, {strings.Repeat("1", 1000000), api.ErrLimit},
	} {
		checkDecode(t, c.c, result{e: c.e})
	}
}

func TestDecodeOfNothing(t *testing.T) {
	// Without readable cells, and of zeros, the word is zero; it is a code word, and its checksum is wrong.
	for length := range 837 {
		checkDecode(t, strings.Repeat("?", length), result{e: api.ErrChecksum})
		checkDecode(t, strings.Repeat("0", length), result{e: api.ErrChecksum})
	}
}

func TestDecodeOfOtherCodeWords(t *testing.T) {
	r := random()
	for range 50 {
		checkDecode(t, bodyOf(wordOf(randomString(r, 44))), result{e: api.ErrChecksum})
		m := changedBytes(r, otherMessage(randomFrame(r)), 1)
		checkDecode(t, bodyOf(wordOf(m)), result{e: api.ErrChecksum})
	}
	for _, c := range []struct {
		at   int
		with string
		e    api.Errno
	}{
		{0, "\x41", api.ErrKind}, {0, "\x41\xff", api.ErrKind}, {1, "\x07", api.ErrRange}, {7, "\x00", api.ErrRange}, {2, "\x01", api.ErrRange}, {2, "\x00\x00", api.ErrRange}, {6, "\x1d", api.ErrRange}, {6, "\x08", api.ErrArgument}, {39, "\x01", api.ErrArgument},
	} {
		checked := checkedPart(valid())
		checked = checked[:c.at] + c.with + checked[c.at+len(c.with):]
		body := bodyOf(wordOf(withChecksum(checked)))
		checkDecode(t, body, result{e: c.e})
		// The quality is zero also if decoding observed damage.
		checkDecode(t, changedBefore(body, invert, 100, 200), result{e: c.e})
		checkDecode(t, body[:830], result{e: c.e})
	}
}

func TestDecodeBeyondTheRadius(t *testing.T) {
	r := random()
	failed := 0
	for range 200 {
		word := wordOf(otherMessage(randomFrame(r)))
		received := changedBytes(r, word, 5+r.IntN(4))
		if _, _, e := rsdecode.Decode(received, 8, nil); e != api.ErrDecode {
			continue
		}
		failed++
		checkDecode(t, bodyOf(received), result{e: api.ErrDecode})
		checkDecode(t, changedBefore(bodyOf(received), invert, 400), result{e: api.ErrDecode})
	}
	if failed < 100 {
		t.Errorf("only %d words are beyond the radius", failed)
	}
}

func TestMissingCellsAreUnreadable(t *testing.T) {
	for _, f := range []api.Frame{example(), valid()} {
		body := bodyOfFrame(t, f)
		for length := range 837 {
			want := otherDecode(t, body[:length])
			checkDecode(t, body[:length], want)
			checkDecode(t, body[:length]+strings.Repeat("?", 836-length), want)
			if length >= 836-90 && want != (result{f: f, q: api.Quality{Unreadable: 836 - length}}) {
				t.Errorf("the first %d cells: %v", length, want)
			}
		}
	}
}

func TestQualityOfInvertedCells(t *testing.T) {
	f := valid()
	body := bodyOfFrame(t, f)
	for i := range bodyCells {
		checkDecode(t, changed(body, invert, i), result{f: f, q: api.Quality{Distance: 1}})
		checkDecode(t, changed(body, blank, i), result{f: f, q: api.Quality{Unreadable: 1}})
	}
	for n := range 100 {
		var positions []int
		for i := range n {
			positions = append(positions, 8*i+i%2)
		}
		checkDecode(t, changedBefore(body, invert, positions...), result{f: f, q: api.Quality{Distance: n}})
		checkDecode(t, changedBefore(body, blank, positions...), result{f: f, q: api.Quality{Unreadable: n}})
	}
	// A missing cell is counted like one that cannot be read.
	checkDecode(t, changedBefore(body, invert, 0, 50)[:830], result{f: f, q: api.Quality{Distance: 2, Unreadable: 6}})
	checkDecode(t, changed(body, blank, 0, 300)[:830], result{f: f, q: api.Quality{Unreadable: 8}})
}

func TestQualityOfCorrectedBytes(t *testing.T) {
	r := random()
	for n := range 5 {
		for range 30 {
			f := randomFrame(r)
			body := bodyOf(changedBytes(r, wordOf(otherMessage(f)), n))
			checkDecode(t, body, result{f: f, q: api.Quality{Corrected: n}})
			checkDecode(t, changedBefore(body, invert, 17, 700), result{f: f, q: api.Quality{Distance: 2, Corrected: n}})
			checkDecode(t, changed(body, blank, 3, 44, 799), result{f: f, q: api.Quality{Unreadable: 3, Corrected: n}})
			checkDecode(t, changedBefore(body, invert, 90, 610)[:834], result{f: f, q: api.Quality{Distance: 2, Unreadable: 2, Corrected: n}})
		}
	}
}

func TestAnAmbiguousInnerCodeWord(t *testing.T) {
	// Where two code words of the inner code differ, no cell can be read, so that both are closest. The code word of one bit 1 has the ones 0, 1, 2, 4 and 5.
	f := valid()
	body := bodyOfFrame(t, f)
	b := bitsOf(wordOf(otherMessage(f)))
	for i := range b {
		p := 2 * i
		damaged := changedBefore(body, blank, p, p+1, p+2, p+4, p+5)
		coded, e := interleave.Deinterleave(damaged, 8)
		if _, _, unique, _ := viterbi.Decode(coded); unique || e != api.OK {
			t.Fatalf("bit %d is certain, error %d", i, e)
		}
		// The bits with a 0 there are the lesser ones.
		corrected := int(b[i] - '0')
		checkDecode(t, damaged, result{f: f, q: api.Quality{Unreadable: 5, Corrected: corrected}})
	}
}

func TestDecodeOfRandomDamage(t *testing.T) {
	r := random()
	errors := map[api.Errno]int{}
	for range 1500 {
		f := randomFrame(r)
		b := []byte(bodyOfFrame(t, f))
		inverted, blanked := r.IntN(120), r.IntN(300)
		for _, i := range r.Perm(bodyCells)[:inverted] {
			b[i] = invert(b[i])
		}
		for _, i := range r.Perm(bodyCells)[:blanked] {
			b[i] = '?'
		}
		c := string(b[:bodyCells-r.IntN(100)])
		want := otherDecode(t, c)
		checkDecode(t, c, want)
		if want.e == api.OK && want.f != f {
			t.Errorf("%q passes the checksum", c)
		}
		errors[want.e]++
	}
	if errors[api.OK] < 100 || errors[api.ErrDecode] < 100 {
		t.Errorf("the damage is too similar: %v", errors)
	}
}

func TestDecodeOfRandomCells(t *testing.T) {
	r := random()
	for range 300 {
		b := make([]byte, r.IntN(837))
		for i := range b {
			b[i] = "01?"[r.IntN(3)]
		}
		checkDecode(t, string(b), otherDecode(t, string(b)))
	}
}

// P13.5: the inverse, and what is corrected.

func TestUnmarshalIsTheInverseOfMarshal(t *testing.T) {
	for _, f := range validFrames() {
		b, e := Marshal(f)
		if e != api.OK {
			t.Fatalf("Marshal(%v): error %d", f, e)
		}
		checkUnmarshal(t, b, f)
	}
	r := random()
	for range 3000 {
		b := withChecksum(changedBytes(r, checkedPart(randomFrame(r)), r.IntN(2)))
		f, e := Unmarshal(b)
		if e != api.OK {
			continue
		}
		if again, e := Marshal(f); again != b || e != api.OK {
			t.Errorf("Marshal(Unmarshal(%q)) = %q, %d", b, again, e)
		}
	}
}

func TestChangedCellsThatAreEightPositionsApart(t *testing.T) {
	r := random()
	f := valid()
	body := bodyOfFrame(t, f)
	for first := range 8 {
		for distance := 8; distance <= 20; distance++ {
			var positions []int
			for p := first; p < bodyCells; p += distance {
				positions = append(positions, p)
			}
			n := len(positions)
			checkDecode(t, changedBefore(body, invert, positions...), result{f: f, q: api.Quality{Distance: n}})
			checkDecode(t, changedBefore(body, blank, positions...), result{f: f, q: api.Quality{Unreadable: n}})
			checkFrame(t, changedBefore(body, either(r), positions...), f)
		}
	}
	for range 500 {
		f := randomFrame(r)
		var positions []int
		for p := r.IntN(20); p < bodyCells; p += 8 + r.IntN(5) {
			positions = append(positions, p)
		}
		q := checkFrame(t, changedBefore(bodyOfFrame(t, f), either(r), positions...), f)
		if q.Corrected != 0 || q.Distance+q.Unreadable != len(positions) {
			t.Errorf("%d changed cells: %v", len(positions), q)
		}
	}
}

// burst returns the cells of an encoded frame with a burst, which may begin in the mark.
func burst(c string, at, length int, damage func(cell byte) byte) string {
	var indices []int
	for i := at; i < at+length && i < len(c); i++ {
		indices = append(indices, i)
	}
	return changed(c, damage, indices...)
}

func TestEveryBurstOf90Cells(t *testing.T) {
	r := random()
	f := valid()
	c := writtenMark + bodyOfFrame(t, f)
	for at := range frameCells {
		checkFrame(t, burst(c, at, 90, invert)[markCells:], f)
		q := checkFrame(t, burst(c, at, 90, blank)[markCells:], f)
		if want := min(at+90, frameCells) - max(at, markCells); q != (api.Quality{Unreadable: want}) {
			t.Errorf("a burst at %d: %v, want %d unreadable cells", at, q, want)
		}
		checkFrame(t, burst(c, at, 90, either(r))[markCells:], f)
		checkFrame(t, burst(c, at, 90, func(byte) byte { return '0' })[markCells:], f)
		checkFrame(t, burst(c, at, 90, func(byte) byte { return '1' })[markCells:], f)
	}
}

func TestShorterBursts(t *testing.T) {
	r := random()
	for range 1500 {
		f := randomFrame(r)
		c := writtenMark + bodyOfFrame(t, f)
		damage := either(r)
		mixed := func(cell byte) byte {
			if r.IntN(3) == 0 {
				return cell
			}
			return damage(cell)
		}
		checkFrame(t, burst(c, r.IntN(frameCells), 1+r.IntN(90), mixed)[markCells:], f)
	}
}

func TestUpToFourBytesDifferAfterTheInnerDecoding(t *testing.T) {
	r := random()
	for range 300 {
		f := randomFrame(r)
		checkFrame(t, bodyOf(changedBytes(r, wordOf(otherMessage(f)), r.IntN(5))), f)
	}
	// Neighbours, the message's ends and the parity symbols.
	f := valid()
	word := wordOf(otherMessage(f))
	for at := range wordBytes - 3 {
		b := []byte(word)
		for i := range 4 {
			b[at+i] ^= 0xFF
		}
		checkDecode(t, bodyOf(string(b)), result{f: f, q: api.Quality{Corrected: 4}})
	}
}

func TestManyDamagedCellsOfFourBytes(t *testing.T) {
	// Whatever happens to the cells, the frame is decoded if the inner decoding changes at most four bytes.
	r := random()
	tried := 0
	for range 1000 {
		f := randomFrame(r)
		word := wordOf(otherMessage(f))
		damaged := bodyOfFrame(t, f)
		for range 4 {
			var positions []int
			at := r.IntN(bodyCells - 10)
			for p := range 10 {
				positions = append(positions, at+p)
			}
			damaged = changedBefore(damaged, either(r), positions...)
		}
		coded, _ := interleave.Deinterleave(damaged, 8)
		b, _, _, _ := viterbi.Decode(coded)
		received, _, _ := cells.ToBytes(b)
		differing, e := rsdecode.Locate(received, word)
		if e != api.OK || len(differing) > 4 {
			continue
		}
		tried++
		if q := checkFrame(t, damaged, f); q.Corrected != len(differing) {
			t.Errorf("%d corrected bytes, want %d", q.Corrected, len(differing))
		}
	}
	if tried < 100 {
		t.Errorf("only %d frames have at most four wrong bytes", tried)
	}
}
