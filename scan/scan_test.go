package scan

import (
	"math/rand/v2"
	"slices"
	"strings"
	"testing"

	"stele/api"
	"stele/cells"
	"stele/frame"
	"stele/interleave"
	"stele/syncmark"
)

// The mark and the sizes as the document writes them.
const (
	writtenMark = "1111100110101000"
	plainMark   = "0000011001010111"
	markCells   = 16
	bodyCells   = 836
	frameCells  = 852
)

// A second scanner, which tries every offset by the definition.

// otherMark reports whether a mark is found at an offset.
func otherMark(c string, at int) bool {
	if at+markCells > len(c) {
		return false
	}
	differing := 0
	for i := range markCells {
		if c[at+i] != writtenMark[i] {
			differing++
		}
	}
	return differing <= 2
}

// bodyAt returns the cells that follow a mark at an offset, as far as the piece has them.
func bodyAt(c string, at int) string {
	body := c[at+markCells:]
	if len(body) > bodyCells {
		body = body[:bodyCells]
	}
	return body
}

// otherFrame returns the sighting of the frame at an offset, and whether there is one.
func otherFrame(c string, at int) (api.Sighting, bool) {
	if !otherMark(c, at) {
		return api.Sighting{}, false
	}
	body := bodyAt(c, at)
	readable := 0
	for i := range len(body) {
		if body[i] == '0' || body[i] == '1' {
			readable++
		}
	}
	f, q, e := frame.Decode(body)
	if readable < 400 || e != api.OK {
		return api.Sighting{}, false
	}
	return api.Sighting{At: at, Frame: f, Quality: q}, true
}

func otherPiece(c string) []api.Sighting {
	var l []api.Sighting
	for at := 0; len(c)-at >= markCells; {
		s, ok := otherFrame(c, at)
		if ok {
			l = append(l, s)
			at += frameCells
		} else {
			at++
		}
	}
	return l
}

// Frames and cells.

func padded(s string) string {
	return s + strings.Repeat("\x00", 28-len(s))
}

// block returns a valid frame with an index.
func block(index int) api.Frame {
	return api.Frame{Kind: 66, Reel: 2, Session: 7, Index: index, Length: 5, Layout: api.Layout{Data: 3, Spare: 2}, Archive: 0xFEDCBA98, Payload: padded("stele")}
}

func random() *rand.Rand {
	return rand.New(rand.NewPCG(14, 852))
}

// randomCells returns length bytes of an alphabet.
func randomCells(r *rand.Rand, alphabet string, length int) string {
	s := make([]byte, length)
	for i := range s {
		s[i] = alphabet[r.IntN(len(alphabet))]
	}
	return string(s)
}

func randomFrame(r *rand.Rand) api.Frame {
	l := api.Layout{Data: 1 + r.IntN(8), Spare: r.IntN(8)}
	payload := make([]byte, r.IntN(29))
	for i := range payload {
		payload[i] = byte(r.Uint32())
	}
	return api.Frame{
		Kind: 66 + 2*r.IntN(2), Reel: r.IntN(l.Data + l.Spare), Session: 1 + r.IntN(255), Index: r.IntN(65536), Length: len(payload),
		Layout: l, Archive: r.Uint32(), Payload: padded(string(payload)),
	}
}

func randomFrames(r *rand.Rand, n int) []api.Frame {
	var l []api.Frame
	for range n {
		l = append(l, randomFrame(r))
	}
	return l
}

func cellsOf(t *testing.T, l ...api.Frame) string {
	t.Helper()
	var b strings.Builder
	for _, f := range l {
		c, e := frame.Encode(f)
		if e != api.OK || len(c) != frameCells {
			t.Fatalf("Encode(%v): %d cells, error %d", f, len(c), e)
		}
		b.WriteString(c)
	}
	return b.String()
}

// Damages.

// damage is what becomes of a cell.
type damage func(cell byte) byte

func invert(cell byte) byte { return cells.Invert(string([]byte{cell}))[0] }

func blank(byte) byte { return '?' }

// strange makes a byte that is not a cell, but shares its lowest bits with one.
func strange(cell byte) byte { return cell | 128 }

// either returns a damage that inverts or blanks at random.
func either(r *rand.Rand) damage {
	return func(cell byte) byte {
		if r.IntN(2) == 0 {
			return invert(cell)
		}
		return blank(cell)
	}
}

// damages returns those that leave cell strings what they are.
func damages(r *rand.Rand) []damage {
	return []damage{invert, blank, either(r), func(byte) byte { return '0' }, func(byte) byte { return '1' }}
}

// changed returns c with a damage of the cells at the indices.
func changed(c string, d damage, indices ...int) string {
	b := []byte(c)
	for _, i := range indices {
		b[i] = d(b[i])
	}
	return string(b)
}

// burst returns c with a damage of the cells from a position up to another one.
func burst(c string, from, to int, d damage) string {
	b := []byte(c)
	for i := from; i < to; i++ {
		b[i] = d(b[i])
	}
	return string(b)
}

// unreadable returns n cells that cannot be read.
func unreadable(n int) string { return strings.Repeat("?", n) }

// Checks.

// at returns the sighting of a frame without damage in the first piece.
func at(offset int, f api.Frame) api.Sighting {
	return api.Sighting{At: offset, Frame: f}
}

func checkPiece(t *testing.T, c string, want ...api.Sighting) {
	t.Helper()
	if l := Piece(c); !slices.Equal(l, want) {
		t.Errorf("Piece of %d cells %.900q = %v, want %v", len(c), c, l, want)
	}
}

// checkFrames checks which frames are sighted where, with any quality.
func checkFrames(t *testing.T, c string, want ...api.Sighting) []api.Sighting {
	t.Helper()
	l := Piece(c)
	seen := slices.Clone(l)
	for i := range seen {
		seen[i].Quality = api.Quality{}
	}
	if !slices.Equal(seen, want) {
		t.Errorf("Piece of %d cells %.900q = %v, want %v", len(c), c, l, want)
	}
	return l
}

// checkByDefinition checks what the second scanner sees, and P14.4.
func checkByDefinition(t *testing.T, c string) []api.Sighting {
	t.Helper()
	want := otherPiece(c)
	checkPiece(t, c, want...)
	checkPlacement(t, c)
	return want
}

// P14.1: Piece.

func TestTwoFrames(t *testing.T) {
	a, b := block(0), block(1)
	c := cellsOf(t, a, b)
	checkPiece(t, c, at(0, a), at(852, b))
	checkPiece(t, c[1:], at(851, b))
	checkPiece(t, c[852:], at(0, b))
	checkPiece(t, c[:852], at(0, a))
}

func TestPiecesWithoutFrames(t *testing.T) {
	for _, c := range []string{
		"", "0", "1", "?", "x", "\x00", "é", writtenMark[:15], writtenMark, writtenMark + "0", plainMark, writtenMark + writtenMark,
		strings.Repeat("0", 3000), strings.Repeat("1", 3000), unreadable(3000), strings.Repeat("x", 3000), strings.Repeat("\xff\x00", 3000),
		strings.Repeat("01", 2000), strings.Repeat(writtenMark, 300), strings.Repeat(plainMark, 300),
		writtenMark + unreadable(835), writtenMark + unreadable(836), writtenMark + unreadable(837),
		writtenMark + strings.Repeat("0", 836), writtenMark + strings.Repeat("1", 836), writtenMark + strings.Repeat("x", 836),
	} {
		checkPiece(t, c)
		checkByDefinition(t, c)
	}
	r := random()
	for range 30 {
		checkPiece(t, randomCells(r, "01", r.IntN(10000)))
		checkPiece(t, randomCells(r, "01?", r.IntN(10000)))
		checkPiece(t, plainMark+randomCells(r, "01", 752)+plainMark+randomCells(r, "01", 752))
	}
}

func TestALongPieceWithFewFrames(t *testing.T) {
	f, g := block(5), block(6)
	c := unreadable(1000000) + cellsOf(t, f) + strings.Repeat("0", 1000001) + cellsOf(t, g) + "1"
	checkPiece(t, c, at(1000000, f), at(2000853, g))
}

func TestAFrameAtEveryOffset(t *testing.T) {
	r := random()
	for offset := range 900 {
		f := block(offset)
		for _, alphabet := range []string{"0", "1", "?", "01", "01?x\x00\xff"} {
			before := randomCells(r, alphabet, offset)
			checkPiece(t, before+cellsOf(t, f), at(offset, f))
		}
	}
}

func TestEveryDistanceOfTwoFrames(t *testing.T) {
	a, b := block(1), block(2)
	for gap := range 900 {
		c := cellsOf(t, a) + unreadable(gap) + cellsOf(t, b)
		checkPiece(t, c, at(0, a), at(852+gap, b))
	}
}

func TestTheBeginningIsMissing(t *testing.T) {
	a, b := block(3), block(4)
	c := cellsOf(t, a, b)
	for missing := 1; missing <= 852; missing++ {
		checkPiece(t, c[missing:], at(852-missing, b))
	}
}

func TestEveryLengthOfATornFrame(t *testing.T) {
	for _, f := range []api.Frame{block(0), block(40000), {Kind: 68, Session: 1, Layout: api.Layout{Data: 1}, Payload: padded("")}} {
		c := cellsOf(t, f)
		for length := range frameCells {
			seen := checkByDefinition(t, c[:length])
			if length < 416 && len(seen) > 0 {
				t.Errorf("a frame of %d cells is sighted", length)
			}
			if length >= 762 && !slices.Equal(seen, []api.Sighting{{Frame: f, Quality: api.Quality{Unreadable: 852 - length}}}) {
				t.Errorf("a frame of %d cells: %v", length, seen)
			}
		}
	}
}

func TestCellsBehindAFrameAreNotItsBody(t *testing.T) {
	f := block(9)
	for _, after := range []string{"0", "1", "?", "x", "\xff", plainMark, writtenMark, unreadable(900), strings.Repeat("x", 2000)} {
		checkPiece(t, cellsOf(t, f)+after, at(0, f))
	}
}

// readableBody returns a body that is decoded to f although only n of its cells are readable.
func readableBody(t *testing.T, f api.Frame, n int) string {
	t.Helper()
	coded, e := interleave.Deinterleave(cellsOf(t, f)[markCells:], 8)
	if e != api.OK {
		t.Fatal(e)
	}
	// One cell of each pair suffices for the inner code, and the outer code corrects what a gap of some pairs costs.
	b := []byte(coded)
	for i := 1; i < len(b); i += 2 {
		b[i] = '?'
	}
	for i := 400; cells.Unreadable(string(b)) < bodyCells-n; i += 2 {
		b[i] = '?'
	}
	body, e := interleave.Interleave(string(b), 8)
	if e != api.OK {
		t.Fatal(e)
	}
	if g, q, e := frame.Decode(body); g != f || q.Unreadable != bodyCells-n || e != api.OK {
		t.Fatalf("Decode of a body with %d readable cells: %v, %v, %d", n, g, q, e)
	}
	return body
}

func TestTheReadableCellsOfABody(t *testing.T) {
	for index := range 12 {
		f := block(index * 5000)
		for n := 394; n <= 418; n++ {
			body := readableBody(t, f, n)
			for _, mark := range []string{writtenMark, "??" + writtenMark[2:], "00" + writtenMark[2:]} {
				// The cells before and after the frame do not count.
				c := "1111" + mark + body + strings.Repeat("1", 500)
				if n < 400 {
					checkFrames(t, c)
				} else {
					checkFrames(t, c, at(4, f))
				}
				checkByDefinition(t, c)
			}
		}
	}
}

func TestMissingCellsAreNotReadable(t *testing.T) {
	tried := map[bool]int{}
	for index := range 80 {
		f := block(index)
		for n := 395; n <= 410; n++ {
			// The last cells of the body are unreadable or missing, which makes no difference.
			body := strings.TrimRight(readableBody(t, f, n), "?")
			seen := checkByDefinition(t, writtenMark+body)
			tried[len(seen) == 1]++
			if (len(seen) == 1) != (n >= 400) {
				t.Errorf("%d readable cells of %d: %v", n, len(body), seen)
			}
		}
	}
	if tried[true] == 0 || tried[false] == 0 {
		t.Error(tried)
	}
}

func TestABodyThatIsNoCellString(t *testing.T) {
	a, b := block(1), block(2)
	c := cellsOf(t, a, b)
	for i := markCells; i < frameCells; i++ {
		for _, d := range []damage{strange, func(byte) byte { return 'x' }, func(byte) byte { return 0 }, func(byte) byte { return '2' }, func(byte) byte { return ' ' }} {
			checkPiece(t, changed(c, d, i), at(852, b))
		}
	}
	// A cell behind the body is not decoded.
	checkPiece(t, c[:852]+"x", at(0, a))
	checkPiece(t, c[:851]+"x")
	checkPiece(t, c[:800]+"x")
	checkPiece(t, c[:800]+strings.Repeat("x", 1000))
}

func TestStrangeBytesInAMark(t *testing.T) {
	f := block(3)
	c := cellsOf(t, f)
	for i := range markCells {
		checkPiece(t, changed(c, strange, i), at(0, f))
		for j := range i {
			checkPiece(t, changed(c, strange, i, j), at(0, f))
			for k := range j {
				checkPiece(t, changed(c, strange, i, j, k))
			}
		}
	}
}

func TestAMarkWithoutAFrame(t *testing.T) {
	f, g := block(1), block(2)
	c := cellsOf(t, f, g)
	// Scanning goes on one cell behind a mark that no frame follows, however close the next frame is.
	for gap := range 900 {
		checkPiece(t, writtenMark+unreadable(gap)+c, at(16+gap, f), at(868+gap, g))
		checkPiece(t, writtenMark+strings.Repeat("0", gap)+c, at(16+gap, f), at(868+gap, g))
	}
}

func TestMarksThatOverlap(t *testing.T) {
	f := block(1)
	c := cellsOf(t, f)
	for length := 1; length <= 16; length++ {
		before := writtenMark[:length]
		checkPiece(t, before+c, at(length, f))
		checkPiece(t, before+before+c, at(2*length, f))
	}
}

func TestDamagedMarksThatOverlap(t *testing.T) {
	f := block(1)
	found := map[int]bool{}
	for shift := 1; shift < markCells; shift++ {
		c := writtenMark[:shift] + cellsOf(t, f)
		var differing []int
		for i := shift; i < markCells; i++ {
			if c[i] != writtenMark[i] {
				differing = append(differing, i)
			}
		}
		// Each cell in which the two marks differ is damaged for one of them.
		for choice := range 1 << len(differing) {
			b := []byte(c)
			for k, i := range differing {
				if choice>>k&1 == 1 {
					b[i] = writtenMark[i]
				}
			}
			if s := string(b); otherMark(s, 0) && otherMark(s, shift) {
				found[shift] = true
				checkPiece(t, s, at(shift, f))
				checkByDefinition(t, s)
			}
		}
	}
	if !found[8] || !found[15] {
		t.Errorf("marks are found at the distances %v", found)
	}
}

func TestAMarkInABody(t *testing.T) {
	// A frame is scanned as a whole: a frame that begins in it is not sighted, even if the first one has lost its end.
	a, b, c := block(1), block(2), block(3)
	for missing := 1; missing <= 90; missing++ {
		torn := cellsOf(t, a)[:852-missing]
		seen := checkFrames(t, torn+cellsOf(t, b), at(0, a))
		if len(seen) == 1 && seen[0].Quality.Unreadable != 0 {
			t.Errorf("%d missing cells: %v", missing, seen)
		}
		checkFrames(t, torn+cellsOf(t, b, c), at(0, a), at(1704-missing, c))
		// If the first one cannot be decoded, the second one is sighted.
		for _, d := range []damage{blank, invert} {
			broken := burst(torn, 16, 500, d)
			checkPiece(t, broken+cellsOf(t, b, c), at(852-missing, b), at(1704-missing, c))
		}
	}
}

func TestAMarkThatIsWrittenIntoABody(t *testing.T) {
	// A mark inside of a burst is no reason to stop.
	f, g := block(1), block(2)
	c := cellsOf(t, f, g)
	for i := markCells; i+markCells <= frameCells; i++ {
		checkFrames(t, c[:i]+writtenMark+c[i+markCells:], at(0, f), at(852, g))
	}
}

func TestTheSameFrameTwice(t *testing.T) {
	f := block(1)
	checkPiece(t, cellsOf(t, f, f, f), at(0, f), at(852, f), at(1704, f))
}

func TestFramesOfEveryWriter(t *testing.T) {
	var l []api.Frame
	for _, archive := range []uint32{0, 1, 7, 1 << 31, 1<<32 - 1} {
		for _, kind := range []int{66, 68} {
			f := block(3)
			f.Archive, f.Kind = archive, kind
			l = append(l, f)
		}
	}
	seen := Piece(cellsOf(t, l...))
	if !slices.Equal(framesOf(seen), l) {
		t.Errorf("%v is sighted, want %v", seen, l)
	}
}

func TestTheQualityIsThatOfDecode(t *testing.T) {
	f := block(12)
	c := cellsOf(t, f)
	s := func(q api.Quality) api.Sighting { return api.Sighting{Frame: f, Quality: q} }
	checkPiece(t, changed(c, invert, 100), s(api.Quality{Distance: 1}))
	checkPiece(t, changed(c, invert, 16, 851), s(api.Quality{Distance: 2}))
	checkPiece(t, changed(c, blank, 16, 17, 851), s(api.Quality{Unreadable: 3}))
	checkPiece(t, burst(c, 300, 390, blank), s(api.Quality{Unreadable: 90}))
	checkPiece(t, c[:800], s(api.Quality{Unreadable: 52}))
	// Damage of the mark does not count.
	checkPiece(t, changed(c, invert, 0, 15), s(api.Quality{}))
	checkPiece(t, changed(c, blank, 3, 9, 700), s(api.Quality{Unreadable: 1}))
	r := random()
	corrected := 0
	for range 500 {
		from := 16 + r.IntN(600)
		damaged := burst(c, from, from+r.IntN(200), either(r))
		for _, seen := range checkByDefinition(t, damaged) {
			corrected += seen.Quality.Corrected
		}
	}
	if corrected == 0 {
		t.Error("no byte was corrected")
	}
}

func TestTheIteratorCanBeStopped(t *testing.T) {
	c := cellsOf(t, block(0), block(1), block(2))
	for n := 1; n <= 3; n++ {
		var l []api.Sighting
		for s := range sightings(8, c) {
			l = append(l, s)
			if len(l) == n {
				break
			}
		}
		if len(l) != n || l[n-1] != (api.Sighting{Piece: 8, At: 852 * (n - 1), Frame: block(n - 1)}) {
			t.Errorf("the first %d sightings are %v", n, l)
		}
	}
}

// P14.1: Pieces.

func checkPieces(t *testing.T, l []string, want ...api.Sighting) {
	t.Helper()
	given := slices.Clone(l)
	if seen := Pieces(l); !slices.Equal(seen, want) {
		t.Errorf("Pieces of %d strings = %v, want %v", len(l), seen, want)
	}
	if !slices.Equal(l, given) {
		t.Errorf("Pieces changed its argument")
	}
}

func TestPieces(t *testing.T) {
	a, b := block(0), block(1)
	one, two := cellsOf(t, a), cellsOf(t, a, b)
	checkPieces(t, nil)
	checkPieces(t, []string{})
	checkPieces(t, []string{""})
	checkPieces(t, []string{"", "x", unreadable(2000)})
	checkPieces(t, []string{one}, at(0, a))
	checkPieces(t, []string{two}, at(0, a), at(852, b))
	checkPieces(t, []string{"", "0" + two, one[1:], one},
		api.Sighting{Piece: 1, At: 1, Frame: a}, api.Sighting{Piece: 1, At: 853, Frame: b}, api.Sighting{Piece: 3, Frame: a})
	checkPieces(t, []string{one, one, one}, at(0, a), api.Sighting{Piece: 1, Frame: a}, api.Sighting{Piece: 2, Frame: a})
}

func TestPiecesAreNotJoined(t *testing.T) {
	f := block(1)
	c := cellsOf(t, f)
	for _, cut := range []int{1, 8, 14} {
		checkPieces(t, []string{c[:cut], c[cut:]})
	}
	checkPieces(t, []string{c[:16], c[16:]})
	checkPieces(t, []string{c[:400], c[400:]})
	checkPieces(t, []string{c[:800], c[800:]}, api.Sighting{Frame: f, Quality: api.Quality{Unreadable: 52}})
	checkPieces(t, []string{c[:2], c[2:]})
}

func TestManyPieces(t *testing.T) {
	r := random()
	var pieces []string
	var want []api.Sighting
	for i := range 3000 {
		if i%3 == 0 {
			pieces = append(pieces, unreadable(r.IntN(30)))
			continue
		}
		f := block(i)
		before := r.IntN(30)
		pieces = append(pieces, unreadable(before)+cellsOf(t, f))
		want = append(want, api.Sighting{Piece: i, At: before, Frame: f})
	}
	checkPieces(t, pieces, want...)
}

func TestResultsAreNewMemory(t *testing.T) {
	c := cellsOf(t, block(0), block(1))
	first := Piece(c)
	first[0], first[1] = api.Sighting{}, api.Sighting{}
	checkPiece(t, c, at(0, block(0)), at(852, block(1)))
	all := Pieces([]string{c})
	all[0] = api.Sighting{}
	checkPieces(t, []string{c}, at(0, block(0)), at(852, block(1)))
}

// P14.1: Join.

func checkJoin(t *testing.T, l []api.Frame, want string, wantError api.Errno) {
	t.Helper()
	given := slices.Clone(l)
	if c, e := Join(l); c != want || e != wantError {
		t.Errorf("Join of %d frames %.900v: %d cells, error %d, want %d cells, error %d", len(l), l, len(c), e, len(want), wantError)
	}
	if !slices.Equal(l, given) {
		t.Errorf("Join changed its argument")
	}
}

func TestJoinOfValidFrames(t *testing.T) {
	checkJoin(t, nil, "", api.OK)
	checkJoin(t, []api.Frame{}, "", api.OK)
	checkJoin(t, []api.Frame{block(3)}, cellsOf(t, block(3)), api.OK)
	checkJoin(t, []api.Frame{block(2), block(1), block(2)}, cellsOf(t, block(2))+cellsOf(t, block(1))+cellsOf(t, block(2)), api.OK)
	r := random()
	for n := range 40 {
		l := randomFrames(r, n)
		checkJoin(t, l, cellsOf(t, l...), api.OK)
	}
}

// invalidFrames returns an invalid frame for each error that a frame can have.
func invalidFrames() map[api.Errno]api.Frame {
	kind, number, payload := block(1), block(1), block(1)
	kind.Kind = 67
	number.Session = 256
	payload.Payload = "short"
	return map[api.Errno]api.Frame{api.ErrKind: kind, api.ErrRange: number, api.ErrArgument: payload}
}

func TestJoinOfInvalidFrames(t *testing.T) {
	for e, f := range invalidFrames() {
		checkJoin(t, []api.Frame{f}, "", e)
		checkJoin(t, []api.Frame{f, block(1)}, "", e)
		checkJoin(t, []api.Frame{block(1), f}, "", e)
		checkJoin(t, []api.Frame{block(1), f, block(2)}, "", e)
		for _, other := range invalidFrames() {
			checkJoin(t, []api.Frame{f, other}, "", e)
			checkJoin(t, []api.Frame{block(1), f, block(2), other}, "", e)
		}
	}
	checkJoin(t, []api.Frame{{}}, "", api.ErrKind)
	both := invalidFrames()[api.ErrArgument]
	both.Index = -1
	checkJoin(t, []api.Frame{block(0), both}, "", api.ErrRange)
}

// P14.2: the round trip.

func framesOf(l []api.Sighting) []api.Frame {
	var frames []api.Frame
	for _, s := range l {
		frames = append(frames, s.Frame)
	}
	return frames
}

func checkRoundTrip(t *testing.T, l []api.Frame) {
	t.Helper()
	c, e := Join(l)
	if e != api.OK {
		t.Fatalf("Join(%v): error %d", l, e)
	}
	var want []api.Sighting
	for i, f := range l {
		want = append(want, at(852*i, f))
	}
	checkPiece(t, c, want...)
}

func TestRoundTripOfRandomFrames(t *testing.T) {
	r := random()
	for range 300 {
		checkRoundTrip(t, randomFrames(r, r.IntN(12)))
	}
	checkRoundTrip(t, randomFrames(r, 2000))
}

func TestRoundTripOfFramesAtTheLimits(t *testing.T) {
	var l []api.Frame
	for data := 1; data <= 8; data++ {
		for _, spare := range []int{0, 1, 7} {
			for _, reel := range []int{0, data + spare - 1} {
				for _, session := range []int{1, 255} {
					f := block(65535 * (session % 2))
					f.Layout, f.Reel, f.Session = api.Layout{Data: data, Spare: spare}, reel, session
					l = append(l, f)
				}
			}
		}
	}
	for length := range 29 {
		for _, b := range []string{"\x00", "\x01", "\xff", "\xaa", "?"} {
			f := block(length)
			f.Length, f.Payload = length, padded(strings.Repeat(b, length))
			l = append(l, f)
		}
	}
	checkRoundTrip(t, l)
	for _, f := range l {
		checkRoundTrip(t, []api.Frame{f})
	}
}

// P14.3: robustness.

// checkRobust checks that a damaged frame is sighted between intact ones, after other cells, and alone.
func checkRobust(t *testing.T, c string, f api.Frame) {
	t.Helper()
	before, after := block(60000), block(60001)
	checkFrames(t, c, at(0, f))
	checkFrames(t, "?01"+c, at(3, f))
	if len(c) == frameCells {
		checkFrames(t, cellsOf(t, before)+c+cellsOf(t, after), at(0, before), at(852, f), at(1704, after))
	} else {
		checkFrames(t, cellsOf(t, before)+c, at(0, before), at(852, f))
	}
}

func TestTwoDamagedCellsOfTheMark(t *testing.T) {
	r := random()
	f := block(77)
	c := cellsOf(t, f)
	for i := range markCells {
		for j := range i + 1 {
			for _, d := range damages(r) {
				damaged := changed(c, d, i, j)
				checkRobust(t, damaged, f)
				checkRobust(t, damaged[:762], f)
				from := 16 + r.IntN(747)
				checkRobust(t, burst(damaged, from, from+90, either(r)), f)
			}
		}
	}
}

func TestThreeDamagedCellsOfTheMark(t *testing.T) {
	f := block(78)
	c := cellsOf(t, f)
	for i := range markCells {
		for j := range i {
			for k := range j {
				checkPiece(t, changed(c, blank, i, j, k))
				checkPiece(t, changed(c, invert, i, j, k))
			}
		}
	}
}

func TestEveryBurstOf90Cells(t *testing.T) {
	r := random()
	f := block(79)
	for from := markCells; from < frameCells; from++ {
		for _, d := range damages(r) {
			mark := r.Perm(markCells)[:r.IntN(3)]
			c := changed(cellsOf(t, f), either(r), mark...)
			checkRobust(t, burst(c, from, min(from+90, frameCells), d), f)
		}
	}
}

func TestUpTo90MissingCells(t *testing.T) {
	r := random()
	f := block(80)
	for missing := range 91 {
		for range 5 {
			mark := r.Perm(markCells)[:r.IntN(3)]
			c := changed(cellsOf(t, f), either(r), mark...)
			checkRobust(t, c[:852-missing], f)
			checkRobust(t, burst(c, 762, 852-missing, either(r))[:852-missing], f)
			checkRobust(t, c[:852-missing]+unreadable(missing), f)
		}
	}
}

func TestRobustnessOfRandomFrames(t *testing.T) {
	r := random()
	for range 500 {
		f := randomFrame(r)
		c := changed(cellsOf(t, f), either(r), r.Perm(markCells)[:r.IntN(3)]...)
		length := r.IntN(91)
		from := 16 + r.IntN(837-length)
		checkRobust(t, burst(c, from, from+length, either(r)), f)
		checkRobust(t, c[:852-r.IntN(91)], f)
	}
}

func TestEveryFrameOfAPieceIsDamaged(t *testing.T) {
	r := random()
	for range 30 {
		l := randomFrames(r, 8)
		var c strings.Builder
		var want []api.Sighting
		for i, f := range l {
			from := 16 + r.IntN(747)
			c.WriteString(burst(changed(cellsOf(t, f), either(r), r.Perm(markCells)[:2]...), from, from+90, either(r)))
			want = append(want, at(852*i, f))
		}
		checkFrames(t, c.String(), want...)
	}
}

// P14.4: placement.

// checkPlacement checks the offsets of the sightings of a piece, and what is there.
func checkPlacement(t *testing.T, c string) {
	t.Helper()
	end := 0
	for _, s := range Piece(c) {
		if s.At < end {
			t.Errorf("a frame is sighted at %d, the one before ends at %d", s.At, end)
		}
		end = s.At + frameCells
		if n, ok := syncmark.Find(c, s.At); n != s.At || !ok {
			t.Errorf("no mark is found at %d", s.At)
		}
		if f, q, e := frame.Decode(bodyAt(c, s.At)); f != s.Frame || q != s.Quality || e != api.OK {
			t.Errorf("the body at %d is %v, %v, %d, not %v", s.At, f, q, e, s)
		}
	}
}

// randomStrip returns frames, parts of frames, marks and other cells in a random order.
func randomStrip(t *testing.T, r *rand.Rand) string {
	var b strings.Builder
	for range r.IntN(8) {
		c := cellsOf(t, randomFrame(r))
		from := r.IntN(frameCells)
		to := min(from+r.IntN(150), frameCells)
		switch r.IntN(8) {
		case 0:
			b.WriteString(c[:r.IntN(frameCells)])
		case 1:
			b.WriteString(c[r.IntN(frameCells):])
		case 2:
			b.WriteString(burst(c, from, to, either(r)))
		case 3:
			b.WriteString(changed(c, either(r), r.Perm(markCells)[:r.IntN(5)]...))
		case 4:
			b.WriteString(randomCells(r, "01?", r.IntN(40)) + writtenMark[:r.IntN(17)])
		case 5:
			b.WriteString(randomCells(r, "01?x\xff", r.IntN(900)))
		default:
			b.WriteString(c)
		}
	}
	return b.String()
}

func TestRandomStrips(t *testing.T) {
	r := random()
	seen := 0
	for range 700 {
		seen += len(checkByDefinition(t, randomStrip(t, r)))
	}
	if seen < 700 {
		t.Errorf("only %d frames are sighted", seen)
	}
}

func TestPiecesAreScannedSeparately(t *testing.T) {
	r := random()
	for range 60 {
		var pieces []string
		var want []api.Sighting
		for number := range r.IntN(8) {
			c := randomStrip(t, r)
			pieces = append(pieces, c)
			for _, s := range Piece(c) {
				if s.Piece != 0 {
					t.Errorf("the only piece has the number %d", s.Piece)
				}
				s.Piece = number
				want = append(want, s)
			}
		}
		checkPieces(t, pieces, want...)
	}
}
